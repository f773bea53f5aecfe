/-
  What a row's list of the library's tables gives.
-/
import Derived.Test.YtoalnfkjpdgbiaaDoorRpBidx
import Derived.Test.YtoalnfkjpdgbiaaDoorRows
import Derived.ChangeSlices
import Derived.SizedLaws
import Derived.ProofKit
import Derived.OpenShut
import Derived.Deep.Slices
import Derived.Carry
import Derived.ShutString
import Derived.Test.YtoalnfkjpdgbiaaDoorRpPlainM
import Derived.Test.YtoalnfkjpdgbiaaDoorRmMade
import Derived.Test.YtoalnfkjpdgbiaaDoorRpBids
import Derived.Test.YtoalnfkjpdgbiaaDoorRpTexts
import Derived.Lib.LaidU8T
import Derived.Shelf.Vars
/-
  How bytes that came in are read.
-/
namespace Go.Proofs.YtoalnfkjpdgbiaaDoor
open Go.ChangeShapes Go.WideShapes Go.ChangeAt Go.RowKit
set_option linter.unusedVariables false
set_option maxRecDepth 100000
theorem cells_u8 : Tryd.prog.cellsOf 5 = 1 := by kernel_rfl
theorem bulk_lits {H : Type} (k : IntKind) (zs : List Int) : Rows.uptoBulkAll (H := H) (lits k zs) = zs.length := by
  induction zs with
  | nil => rfl
  | cons z zs ih =>
    show Rows.uptoBulk (H := H) (.lit (.int k z)) + Rows.uptoBulkAll (H := H) (lits k zs) = _
    rw [ih]
    show 1 + zs.length = zs.length + 1
    omega
theorem spot_none {w : World} {a : Addr} {v : Value} (h : w.cell? a = some v) : a.spot = none ∧ a.block < w.heap.size := by
  unfold World.cell? at h
  cases hb : w.heap[a.block]? with
  | none => rw [hb] at h; cases h
  | some o =>
    have hlt : a.block < w.heap.size := (Array.getElem?_eq_some_iff.1 hb).1
    rw [hb] at h
    cases o with
    | cells c t f =>
      cases hs : a.spot with
      | none => exact ⟨rfl, hlt⟩
      | some x => simp [hs] at h
    | _ => cases h
theorem u8_wf {z : Int} (h : (Lit.int .u8 z).wf = true) : ((UInt8.ofNat z.toNat).toNat : Int) = z := by
  have hz : 0 ≤ z ∧ z ≤ 255 := by simpa [Lit.wf, IntKind.min, IntKind.max, IntKind.signed, IntKind.bits] using h
  rw [UInt8.toNat_ofNat']
  omega
theorem open_bs {H : Type} {enc : TypeId × Value → H} {W : World} {v : Value} {d : DataW H} {p : List MemPlace} {base : Nat} (o : Value.okWide Tryd.prog W .any base 29 v)
    (h : DataW.Trod enc Tryd.prog W 0 (fun _ => true) true 29 v d p) : ∃ b : List UInt8, Bs (· < W.heap.size) W v b ∧ b.length ≤ Rows.uptoBulk d := by
  obtain ⟨a0, l0, c0, rfl⟩ := okWide_slice Tryd.underlying29 o
  obtain ⟨fuel, h⟩ := h
  rcases open_ints Tryd.underlying29 Tryd.underlying5 cells_u8 h with ⟨hcs, hx⟩ | ⟨a, len, cap, zs, hcs, _, hl, hm, hz, hx, hcell, hwz⟩
  · have hcs : [Value.slice a0 l0 c0] = [.slice none 0 0] := hcs
    cases hcs
    exact ⟨[], ⟨none, 0, rfl, Nat.le_refl _, .inl rfl⟩, Nat.zero_le _⟩
  · have hcs : [Value.slice a0 l0 c0] = [.slice (some a) len cap] := hcs
    cases hcs
    simp only [if_true] at hz
    cases hx
    have hlen : ((zs.take l0).map fun z => UInt8.ofNat z.toNat).length = l0 := by rw [List.length_map, List.length_take]; omega
    refine ⟨(zs.take l0).map fun z => UInt8.ofNat z.toNat, ⟨some a, c0, by rw [hlen], by rw [hlen]; exact hl, ?_⟩, ?_⟩
    · by_cases e : l0 = 0
      · left
        rw [e]
        rfl
      · right
        have h0 := spot_none (hcell 0 (by omega))
        have ha : a.add 0 = a := if_pos rfl
        rw [ha] at h0
        obtain ⟨g, off, sp⟩ := a
        have hsp : sp = none := h0.1
        subst hsp
        refine ⟨g, off, rfl, h0.2, fun j x hx => ?_⟩
        have hj : j < l0 := by have := (List.getElem?_eq_some_iff.1 hx).1; omega
        have hc := hcell j (by omega)
        have ea : (⟨g, off, none⟩ : Addr).add j = ⟨g, off + j, none⟩ := by unfold Addr.add; split <;> simp_all
        rw [ea] at hc
        rw [hc]
        rw [List.getElem?_map, List.getElem?_take, if_pos hj, List.getElem?_eq_getElem (by omega)] at hx
        have hx' : UInt8.ofNat (zs[j]'(by omega)).toNat = x := by simpa using hx
        rw [← hx', u8_wf (hwz _ (List.getElem_mem (by omega)))]
        rw [List.getD, List.getElem?_eq_getElem (by omega)]
        rfl
    · rw [hlen]
      show l0 ≤ Rows.uptoBulkAll (H := H) (lits .u8 (zs.take l0)) + Rows.uptoBulkAll (H := H) (lits .u8 (zs.drop l0)) + 1
      rw [bulk_lits, bulk_lits, List.length_take]
      omega
end Go.Proofs.YtoalnfkjpdgbiaaDoor

/-
  How nodes that came in are read, and how much they hold.
-/
namespace Go.Proofs.YtoalnfkjpdgbiaaDoor
open Go.ChangeShapes Go.WideShapes Go.ChangeAt Go.RowKit
set_option linter.unusedVariables false
set_option maxRecDepth 100000
theorem cells_node : Tryd.prog.cellsOf 55 = 4 := by kernel_rfl
theorem cells_i64 : Tryd.prog.cellsOf 3 = 1 := by kernel_rfl
theorem cells_j64 : Tryd.prog.cellsOf 2 = 1 := by kernel_rfl
theorem cells_str : Tryd.prog.cellsOf 9 = 1 := by kernel_rfl
theorem bulk_str {H : Type} (s : ByteArray) : Rows.uptoBulk (H := H) (.lit (.string s.data.toList)) = s.size + 1 := by
  show s.data.toList.length + 1 = _
  rw [Array.length_toList]
  rfl
section
variable {H : Type} {enc : TypeId × Value → H} {W : World}
theorem open_nd {fuel : Nat} {cs : List Value} {x : DataW H × List MemPlace} (h : DataW.trod enc Tryd.prog W 0 (fun _ => true) true fuel 55 cs = some x) :
    ∃ g : Nd, cs = [.int .i64 g.k, .string g.s, .int .i64 g.i, .int .i64 g.n] ∧ (I64 g.k ∧ I64 g.i ∧ I64 g.n) ∧ g.s.size + 5 ≤ Rows.uptoBulk x.1 := by
  obtain ⟨xs, n, _, hx, hlen, hlx, hf⟩ := DataW.trod_struct Tryd.underlying55 h
  rw [cells_node] at hlen
  match cs, hlen with
  | [c0, c1, c2, c3], _ =>
    match xs, hlx with
    | [y0, y1, y2, y3], _ =>
      have h0 : DataW.trod enc Tryd.prog W 0 (fun _ => true) true n 3 [c0] = some y0 := by simpa [cells_i64] using hf 0 _ rfl
      have h1 : DataW.trod enc Tryd.prog W 0 (fun _ => true) true n 9 [c1] = some y1 := by simpa [cells_str] using hf 1 _ rfl
      have h2 : DataW.trod enc Tryd.prog W 0 (fun _ => true) true n 2 [c2] = some y2 := by simpa [cells_j64] using hf 2 _ rfl
      have h3 : DataW.trod enc Tryd.prog W 0 (fun _ => true) true n 3 [c3] = some y3 := by simpa [cells_i64] using hf 3 _ rfl
      obtain ⟨k0, e0, f0, w0⟩ := DataW.trod_int Tryd.underlying3 h0
      obtain ⟨s1, e1, f1, w1⟩ := DataW.trod_string Tryd.underlying9 h1
      obtain ⟨k2, e2, f2, w2⟩ := DataW.trod_int Tryd.underlying2 h2
      obtain ⟨k3, e3, f3, w3⟩ := DataW.trod_int Tryd.underlying3 h3
      cases e0; cases e1; cases e2; cases e3
      refine ⟨⟨k0, s1, k2, k3⟩, rfl, ⟨bounds_i64 w0, bounds_i64 w2, bounds_i64 w3⟩, ?_⟩
      have hx1 : x.1 = .agg [y0.1, y1.1, y2.1, y3.1] := by rw [hx]; rfl
      rw [hx1, f0, f1, f2, f3]
      show s1.size + 5 ≤ (1 + (Rows.uptoBulk (H := H) (.lit (.string s1.data.toList)) + (1 + (1 + 0)))) + 1
      rw [bulk_str]
      omega
theorem bulk_all {H : Type} : ∀ (l : List (DataW H)), Rows.uptoBulkAll l = (l.map Rows.uptoBulk).sum
  | [] => rfl
  | d :: l => by
    show Rows.uptoBulk d + Rows.uptoBulkAll l = _
    rw [bulk_all l]
    rfl
theorem open_nds {v : Value} {d : DataW H} {p : List MemPlace} {base : Nat} (o : Value.okWide Tryd.prog W .any base 22 v)
    (h : DataW.Trod enc Tryd.prog W 0 (fun _ => true) true 22 v d p) (hd : Rows.uptoBulk d ≤ 1048576) :
    ∃ so cap S, v = .slice so S.length cap ∧ Nds W so S ∧ S.length ≤ 1048576 ∧ rest S 0 ≤ 1048576 := by
  obtain ⟨a0, l0, c0, rfl⟩ := okWide_slice Tryd.underlying22 o
  obtain ⟨fuel, h⟩ := h
  rcases Go.Deep.open_slice Tryd.underlying22 h with ⟨hcs, hx⟩ | ⟨a, len, cap, m, n, D, Pl, hcs, _, hl, hm, hmm, hx, hel⟩
  · have hcs : [Value.slice a0 l0 c0] = [.slice none 0 0] := hcs
    cases hcs
    exact ⟨none, 0, [], rfl, fun j hj => absurd hj (by simp), Nat.zero_le _, Nat.zero_le _⟩
  · have hcs : [Value.slice a0 l0 c0] = [.slice (some a) len cap] := hcs
    cases hcs
    simp only [if_true] at hmm
    subst hmm
    have each : ∀ i, ∃ g : Nd, i < l0 → NdAt W (a.add (i * 4)) g ∧ (I64 g.k ∧ I64 g.i ∧ I64 g.n) ∧ g.s.size + 5 ≤ Rows.uptoBulk (D i) := by
      intro i
      by_cases hi : i < l0
      · obtain ⟨cs', h1, h2⟩ := hel i (by omega)
        obtain ⟨g, hc, hk, hbk⟩ := open_nd h2
        rw [cells_node] at h1
        obtain ⟨_, _, hcl⟩ := World.cells?_some h1
        refine ⟨g, fun _ => ⟨⟨?_, ?_, ?_, ?_⟩, hk, hbk⟩⟩
        · have e := hcl 0 (by omega); rw [hc] at e; exact e
        · have e := hcl 1 (by omega); rw [hc] at e; exact e
        · have e := hcl 2 (by omega); rw [hc] at e; exact e
        · have e := hcl 3 (by omega); rw [hc] at e; exact e
      · exact ⟨⟨0, .empty, 0, 0⟩, fun h => absurd h hi⟩
    obtain ⟨f, hf⟩ := Classical.skolem.1 each
    have hL : ((List.range l0).map f).length = l0 := by simp
    cases hx
    have hbs : ∀ k, k ≤ l0 → (((List.range k).map f).map fun o => 4 + o.s.size).sum + k ≤ (((List.range k).map D).map Rows.uptoBulk).sum := by
      intro k
      induction k with
      | zero => intro _; simp
      | succ k ih =>
        intro hk
        have h1 := ih (by omega)
        have h2 := (hf k (by omega)).2.2
        rw [List.range_succ]
        simp only [List.map_append, List.map_cons, List.map_nil, List.sum_append, List.sum_cons, List.sum_nil] at *
        omega
    have hb0 := hbs l0 (Nat.le_refl _)
    obtain ⟨ee, hd'⟩ : ∃ ee, Rows.uptoBulkAll ((List.range l0).map D) + ee + 1 ≤ 1048576 := ⟨_, hd⟩
    rw [bulk_all] at hd'
    have hrest : rest ((List.range l0).map f) 0 + l0 ≤ 1048576 := by
      unfold rest
      rw [List.drop_zero]
      omega
    refine ⟨some a, _, (List.range l0).map f, by rw [hL], fun i hi => ?_, by rw [hL]; omega, by omega⟩
    rw [hL] at hi
    have e : ((List.range l0).map f)[i]'(by rw [hL]; exact hi) = f i := by simp
    rw [e]
    obtain ⟨g0, g1, g2⟩ := hf i hi
    refine ⟨a, rfl, ?_, ⟨?_, g1.1, g1.2.1, g1.2.2⟩, g0⟩
    · have := (spot_none g0.1).2
      rwa [addr_block] at this
    · have := rest_at ((List.range l0).map f) 
      have h4 : (f i).s.size + 5 ≤ Rows.uptoBulk (D i) := g2
      have h5 : Rows.uptoBulk (D i) ≤ (((List.range l0).map D).map Rows.uptoBulk).sum := by
        rw [List.map_map]
        exact Rp.sum_mem (Rows.uptoBulk ∘ D) (List.range l0) i (List.mem_range.2 hi)
      omega
end
end Go.Proofs.YtoalnfkjpdgbiaaDoor

/-
  How texts that came in are read, and how long the command is that they make.
-/
namespace Go.Proofs.YtoalnfkjpdgbiaaDoor
open Go.ChangeShapes Go.WideShapes Go.ChangeAt Go.RowKit
set_option linter.unusedVariables false
set_option maxRecDepth 100000
theorem rq_len (S : List ByteArray) (hS : ∀ s ∈ S, s.size ≤ 1048576) : (S.flatMap fun s => Rp.enc 1 (bkR 0 s)).length ≤ 12 * (S.map fun s => s.size + 1).sum := by
  induction S with
  | nil => exact Nat.le_refl _
  | cons s S ih =>
    have h1 := ih (fun u hu => hS u (List.mem_cons_of_mem _ hu))
    have h2 := hS s (List.mem_cons_self ..)
    have h3 : (Lib.itoa (s.size : Int)).length ≤ 7 := by
      rw [Pl.itoa_pos (by omega), Int.toNat_natCast]
      exact Pl.dd_len 6 s.size (Nat.lt_of_le_of_lt h2 (by decide))
    have h4 : (Rp.enc 1 (bkR 0 s)).length ≤ 12 + s.size := by
      show (36 :: (Lib.itoa (s.size : Int) ++ Rp.crlf ++ Rp.bytesOf s ++ Rp.crlf)).length ≤ _
      have := Rp.bytes_len s
      simp only [List.length_cons, List.length_append, Rp.crlf, List.length_nil] at *
      omega
    rw [List.flatMap_cons, List.length_append, List.map_cons, List.sum_cons]
    omega
theorem rq_all (S : List ByteArray) (hS : ∀ s ∈ S, s.size ≤ 1048576) (hn : S.length ≤ 1048576) (hw : (S.map fun s => s.size + 1).sum ≤ 1048576) : (Rp.enc 2 (rqR S)).length ≤ 16777216 := by
  rw [rq_enc]
  have h1 := rq_len S hS
  have h2 := Pl.itoa_len (S.length : Int) (by omega) (by omega)
  simp only [List.length_cons, List.length_append, Rp.crlf, List.length_nil] at *
  omega
section
variable {H : Type} {enc : TypeId × Value → H} {W : World}
theorem open_txs {v : Value} {d : DataW H} {p : List MemPlace} {base : Nat} (o : Value.okWide Tryd.prog W .any base 42 v)
    (h : DataW.Trod enc Tryd.prog W 0 (fun _ => true) true 42 v d p) (hd : Rows.uptoBulk d ≤ 1048576) :
    ∃ so cap S, v = .slice so S.length cap ∧ Txs W so S ∧ S.length ≤ 1048576 ∧ (∀ s ∈ S, s.size ≤ 1048576) ∧ (S.map fun s => s.size + 1).sum ≤ 1048576 := by
  obtain ⟨a0, l0, c0, rfl⟩ := okWide_slice Tryd.underlying42 o
  obtain ⟨fuel, h⟩ := h
  rcases Go.Deep.open_slice Tryd.underlying42 h with ⟨hcs, hx⟩ | ⟨a, len, cap, m, n, D, Pl, hcs, _, hl, hm, hmm, hx, hel⟩
  · have hcs : [Value.slice a0 l0 c0] = [.slice none 0 0] := hcs
    cases hcs
    exact ⟨none, 0, [], rfl, (fun j hj => absurd hj (by simp)), (Nat.zero_le _), (fun (s : ByteArray) (hs : s ∈ []) => by simp at hs), (Nat.zero_le _)⟩
  · have hcs : [Value.slice a0 l0 c0] = [.slice (some a) len cap] := hcs
    cases hcs
    simp only [if_true] at hmm
    subst hmm
    have each : ∀ i, ∃ g : ByteArray, i < l0 → W.cell? (a.add i) = some (.string g) ∧ Rows.uptoBulk (D i) = g.size + 1 := by
      intro i
      by_cases hi : i < l0
      · obtain ⟨cs', h1, h2⟩ := hel i (by omega)
        obtain ⟨g, hc, hk, _⟩ := DataW.trod_string Tryd.underlying9 h2
        rw [cells_str] at h1
        obtain ⟨_, _, hcl⟩ := World.cells?_some h1
        refine ⟨g, fun _ => ⟨?_, ?_⟩⟩
        · have e := hcl 0 (by omega)
          rw [hc, Nat.mul_one] at e
          exact e
        · have e : D i = .lit (.string g.data.toList) := congrArg Prod.fst hk
          rw [e, bulk_str]
      · exact ⟨.empty, fun h => absurd h hi⟩
    obtain ⟨f, hf⟩ := Classical.skolem.1 each
    have hL : ((List.range l0).map f).length = l0 := by simp
    cases hx
    have hbs : ∀ k, k ≤ l0 → (((List.range k).map f).map fun s => s.size + 1).sum = (((List.range k).map D).map Rows.uptoBulk).sum ∧ k ≤ (((List.range k).map f).map fun s => s.size + 1).sum := by
      intro k
      induction k with
      | zero => intro _; exact ⟨rfl, Nat.le_refl _⟩
      | succ k ih =>
        intro hk
        have h1 := ih (by omega)
        have h2 := (hf k (by omega)).2
        rw [List.range_succ]
        simp only [List.map_append, List.map_cons, List.map_nil, List.sum_append, List.sum_cons, List.sum_nil] at *
        omega
    have hb0 := hbs l0 (Nat.le_refl _)
    obtain ⟨ee, hd'⟩ : ∃ ee, Rows.uptoBulkAll ((List.range l0).map D) + ee + 1 ≤ 1048576 := ⟨_, hd⟩
    rw [bulk_all] at hd'
    have hall : ∀ s ∈ (List.range l0).map f, s.size ≤ 1048576 := fun s hs => by
      have := Rp.sum_mem (fun s : ByteArray => s.size + 1) _ s hs
      omega
    refine ⟨some a, _, (List.range l0).map f, by rw [hL], fun i hi => ?_, by rw [hL]; omega, hall, by omega⟩
    rw [hL] at hi
    have e : ((List.range l0).map f)[i]'(by rw [hL]; exact hi) = f i := by simp
    rw [e]
    obtain ⟨g0, _⟩ := hf i hi
    refine ⟨a, rfl, ?_, hall _ (List.mem_map.2 ⟨i, List.mem_range.2 hi, rfl⟩), g0⟩
    have := (spot_none g0).2
    rwa [addr_block] at this
end
end Go.Proofs.YtoalnfkjpdgbiaaDoor

namespace Go.Proofs.YtoalnfkjpdgbiaaDoor
set_option linter.unusedVariables false
theorem pow_data : (Rows.laid_internal_strconv_uint64pow10 : DataW Unit) = Lib.tabData .u64 Lib.pow10Tab := by kernel_rfl
theorem first_data : (Rows.laid_unicode_utf8_first : DataW Unit) = Lib.firstData := by kernel_rfl
theorem accept_data : (Rows.laid_unicode_utf8_acceptRanges : DataW Unit) = Lib.acceptData := by kernel_rfl
theorem gTabType : (Tryd.prog.globals[3]?).map (·.type) = some 151 := by kernel_rfl
theorem tab_of_reads {W : World} (h : Lib.VarReads Tryd.prog W "internal/strconv.uint64pow10" Rows.laid_internal_strconv_uint64pow10) : Tab W := by
  obtain ⟨g, t, cs, fuel, p, hg, ht, hv, hd⟩ := h
  obtain rfl := Option.some.inj (gTab.symm.trans hg)
  obtain rfl := Option.some.inj (gTabType.symm.trans ht)
  rw [pow_data] at hd
  show World.var? _ _ _ = _
  rw [hv, ← Lib.cells_of_tab Tryd.underlying151 Tryd.underlying92 (by kernel_rfl) (by kernel_rfl) hd]
def u8ren : Go.Shelf.Ren := ⟨fun n => n, fun | 5 => 5 | 119 => 146 | 138 => 148 | 139 => 149 | n => n, fun | 3 => 1 | 4 => 2 | n => n⟩
theorem u8_types : U8Types Tryd.prog u8ren := ⟨by kernel_rfl, by kernel_rfl, by kernel_rfl, by kernel_rfl⟩
theorem u8_extra : U8Extra Tryd.prog u8ren := ⟨by kernel_rfl, by kernel_rfl, by kernel_rfl, by kernel_rfl, by kernel_rfl, by kernel_rfl, by kernel_rfl⟩
theorem utf_of_reads {W : World} (h3 : Lib.VarReads Tryd.prog W "unicode/utf8.first" Rows.laid_unicode_utf8_first) (h4 : Lib.VarReads Tryd.prog W "unicode/utf8.acceptRanges" Rows.laid_unicode_utf8_acceptRanges) :
    Lib.Utf8Tabs 1 2 W := by
  rw [first_data] at h3
  rw [accept_data] at h4
  exact utf8Tabs_of_readsT u8_types u8_extra h3 h4
theorem maxlen_of {W : World} (hsh : W.ShapedOpen Tryd.prog) : ∃ m, W.cell? ⟨0, 0, none⟩ = some (.int .i64 m) :=
  cell_of_shapedOpen_int (P := Tryd.prog) (g := 0) (t := 3) (zero := #[.int .i64 0]) hsh (of_decide_eq_true (by kernel_rfl)) (by kernel_rfl) rfl (by kernel_rfl) (by kernel_rfl) Tryd.underlying3
end Go.Proofs.YtoalnfkjpdgbiaaDoor
