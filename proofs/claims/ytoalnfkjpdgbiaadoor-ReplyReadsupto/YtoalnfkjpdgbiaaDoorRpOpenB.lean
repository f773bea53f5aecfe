/-
  How bytes that came in are read.
-/
import Derived.Test.YtoalnfkjpdgbiaaDoorRpBidx
import Derived.Test.YtoalnfkjpdgbiaaDoorRows
import Derived.ChangeSlices
import Derived.SizedLaws
import Derived.ProofKit
import Derived.OpenShut
import Derived.Deep.Slices
import Derived.Carry
import Derived.ShutString
namespace Go.Proofs.YtoalnfkjpdgbiaaDoor
open Go.ChangeShapes Go.WideShapes Go.ChangeAt Go.RowKit
set_option linter.unusedVariables false
set_option maxRecDepth 100000
theorem cells_u8 : Tryd.prog.cellsOf 5 = 1 := by kernel_rfl
theorem bulk_lits {H : Type} (k : IntKind) (zs : List Int) : Rows.uptoBulkAll (H := H) (lits k zs) = zs.length := by
  induction zs with
  | nil => rfl
  | cons z zs ih =>
    show Rows.uptoBulk (H := H) (.lit (.int k z)) + Rows.uptoBulkAll (H := H) (lits k zs) = _
    rw [ih]
    show 1 + zs.length = zs.length + 1
    omega
theorem spot_none {w : World} {a : Addr} {v : Value} (h : w.cell? a = some v) : a.spot = none ∧ a.block < w.heap.size := by
  unfold World.cell? at h
  cases hb : w.heap[a.block]? with
  | none => rw [hb] at h; cases h
  | some o =>
    have hlt : a.block < w.heap.size := (Array.getElem?_eq_some_iff.1 hb).1
    rw [hb] at h
    cases o with
    | cells c t f =>
      cases hs : a.spot with
      | none => exact ⟨rfl, hlt⟩
      | some x => simp [hs] at h
    | _ => cases h
theorem u8_wf {z : Int} (h : (Lit.int .u8 z).wf = true) : ((UInt8.ofNat z.toNat).toNat : Int) = z := by
  have hz : 0 ≤ z ∧ z ≤ 255 := by simpa [Lit.wf, IntKind.min, IntKind.max, IntKind.signed, IntKind.bits] using h
  rw [UInt8.toNat_ofNat']
  omega
theorem open_bs {H : Type} {enc : TypeId × Value → H} {W : World} {v : Value} {d : DataW H} {p : List MemPlace} {base : Nat} (o : Value.okWide Tryd.prog W .any base 29 v)
    (h : DataW.Trod enc Tryd.prog W 0 (fun _ => true) true 29 v d p) : ∃ b : List UInt8, Bs (· < W.heap.size) W v b ∧ b.length ≤ Rows.uptoBulk d := by
  obtain ⟨a0, l0, c0, rfl⟩ := okWide_slice Tryd.underlying29 o
  obtain ⟨fuel, h⟩ := h
  rcases open_ints Tryd.underlying29 Tryd.underlying5 cells_u8 h with ⟨hcs, hx⟩ | ⟨a, len, cap, zs, hcs, _, hl, hm, hz, hx, hcell, hwz⟩
  · have hcs : [Value.slice a0 l0 c0] = [.slice none 0 0] := hcs
    cases hcs
    exact ⟨[], ⟨none, 0, rfl, Nat.le_refl _, .inl rfl⟩, Nat.zero_le _⟩
  · have hcs : [Value.slice a0 l0 c0] = [.slice (some a) len cap] := hcs
    cases hcs
    simp only [if_true] at hz
    cases hx
    have hlen : ((zs.take l0).map fun z => UInt8.ofNat z.toNat).length = l0 := by rw [List.length_map, List.length_take]; omega
    refine ⟨(zs.take l0).map fun z => UInt8.ofNat z.toNat, ⟨some a, c0, by rw [hlen], by rw [hlen]; exact hl, ?_⟩, ?_⟩
    · by_cases e : l0 = 0
      · left
        rw [e]
        rfl
      · right
        have h0 := spot_none (hcell 0 (by omega))
        have ha : a.add 0 = a := if_pos rfl
        rw [ha] at h0
        obtain ⟨g, off, sp⟩ := a
        have hsp : sp = none := h0.1
        subst hsp
        refine ⟨g, off, rfl, h0.2, fun j x hx => ?_⟩
        have hj : j < l0 := by have := (List.getElem?_eq_some_iff.1 hx).1; omega
        have hc := hcell j (by omega)
        have ea : (⟨g, off, none⟩ : Addr).add j = ⟨g, off + j, none⟩ := by unfold Addr.add; split <;> simp_all
        rw [ea] at hc
        rw [hc]
        rw [List.getElem?_map, List.getElem?_take, if_pos hj, List.getElem?_eq_getElem (by omega)] at hx
        have hx' : UInt8.ofNat (zs[j]'(by omega)).toNat = x := by simpa using hx
        rw [← hx', u8_wf (hwz _ (List.getElem_mem (by omega)))]
        rw [List.getD, List.getElem?_eq_getElem (by omega)]
        rfl
    · rw [hlen]
      show l0 ≤ Rows.uptoBulkAll (H := H) (lits .u8 (zs.take l0)) + Rows.uptoBulkAll (H := H) (lits .u8 (zs.drop l0)) + 1
      rw [bulk_lits, bulk_lits, List.length_take]
      omega
end Go.Proofs.YtoalnfkjpdgbiaaDoor
