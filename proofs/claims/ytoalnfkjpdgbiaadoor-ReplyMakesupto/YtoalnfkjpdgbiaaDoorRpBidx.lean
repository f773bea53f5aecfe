/-
  Contracts over this program: bytes.IndexAny of CR LF at any row of bytes, wherever it lies.
-/
import Derived.Test.YtoalnfkjpdgbiaaDoorRpAny
import Derived.Lib.AsciiSet
import Derived.Lib.IndexEntry
import Derived.Deep.WholeRow
import Derived.Laws.ResultCell
import Derived.Shelf.Spec.DecodeRune
/-
  Contracts over this program: the set of CR and LF that bytes.IndexAny makes, and whether a byte is in it.
-/
namespace Go.Proofs.YtoalnfkjpdgbiaaDoor
open Go.RowKit
set_option linter.unusedVariables false
def crs : List UInt8 := [13, 10]
theorem zero115 (w : World) : (zeroValue 115).run Tryd.prog w = .ok (.agg (Array.replicate 256 (.bool false))) w := by kernel_rfl
theorem size115 : (Tryd.prog.info? 115).map (·.size) = some 256 := by kernel_rfl
theorem agg115 (w : World) : (isAgg 115).run Tryd.prog w = .ok true w := by kernel_rfl
theorem szof115 (w : World) : (Go.sizeOf 115).run Tryd.prog w = .ok 256 w := by kernel_rfl
theorem b13 (h : 0 < (⟨#[13, 10]⟩ : ByteArray).size) : ((⟨#[13, 10]⟩ : ByteArray)[0]'h) = 13 := by decide +revert
theorem b10 (h : 1 < (⟨#[13, 10]⟩ : ByteArray).size) : ((⟨#[13, 10]⟩ : ByteArray)[1]'h) = 10 := by decide +revert
set_option maxRecDepth 1000000 in
set_option maxHeartbeats 4000000 in
theorem makeset_any (w : World) :
    Calls Tryd.prog 86 #[.string ⟨#[13, 10]⟩] w fun e w' => e = .returned (.tuple #[.agg (Lib.setCells crs), .bool true]) ∧ w' = w.alloc (.cells (Lib.setCells crs) 115) := by
  have v115 := zero115
  go_enter Tryd.func86, Tryd.ntmps86
  go_wp2
  rw [← Lib.setCells_nil]
  go_loopg [4] 2 (fun g s4 wx => ∃ i : Nat, i + g = 2 ∧ s4 = .int .i64 i ∧ wx = w.alloc (.cells (Lib.setCells (crs.take i)) 115))
  case atStart => exact ⟨0, by omega, rfl, rfl⟩
  case round =>
    obtain ⟨i, hig, rfl, rfl⟩ := hrel
    cases gk with
    | zero =>
      obtain rfl : i = 2 := by omega
      rw [show crs.take 2 = crs from rfl]
      have hsz := Lib.setCells_size crs
      have hld := run_loadVar_new (P := Tryd.prog) w 115 (Lib.setCells crs) 256 4 Tryd.underlying115 (by rw [hsz]; exact size115)
      have hlc := run_loadCellsFrom_new (P := Tryd.prog) w 115 (Lib.setCells crs) 256 hsz
      have hsc := run_storeCells_new (P := Tryd.prog) w 115 (Lib.setCells crs) (Lib.setCells crs) (by rw [hsz]; exact size115) rfl (Lib.setCells_one _)
      have hlo : (Instr.loadAt 115 (.pointer (some ⟨w.heap.size, 0, none⟩))).run Tryd.prog (w.alloc (.cells (Lib.setCells crs) 115)) = .ok (.agg (Lib.setCells crs)) (w.alloc (.cells (Lib.setCells crs) 115)) := by
        unfold Instr.loadAt
        simp [Instr.sureAddr, hld]
      clear v115 hlc
      go_wp2
      unfold Oper.wp
      simp [execOp, Act.eval, hlo]
      rw [Oper.upon_value]
      go_wp2
      try (rw [hsc, Result.andThen_ok, Oper.upon_skip]; go_wp2)
      (try simp only [Exit.inBlock, Exit.then])
      refine bodyPost_ret (v := .tuple #[.agg (Lib.setCells crs), .bool true]) ?_ rfl ⟨rfl, rfl⟩
      rw [results_cell_tmp rfl]
      simp [asAddr, Result.andThen, hld]
    | succ g =>
      rcases (show i = 0 ∨ i = 1 by omega) with rfl | rfl
      · have e0 := b13 (by decide)
        have e1 : ¬ (128 : Int) ≤ ((13 : UInt8).toNat : Int) := by decide
        have e2 : ((13 : UInt8).toNat : Int) < 256 := by decide
        have hcell := Lib.setCells_at (crs.take 0) 13
        go_wp2
        go_roundg g
        case measure => omega
        case rel => exact ⟨1, by omega, rfl, by first | rfl | simp⟩
      · have e0 := b10 (by decide)
        have e1 : ¬ (128 : Int) ≤ ((10 : UInt8).toNat : Int) := by decide
        have e2 : ((10 : UInt8).toNat : Int) < 256 := by decide
        have hcell := Lib.setCells_at (crs.take 1) 10
        go_wp2
        go_roundg g
        case measure => omega
        case rel => exact ⟨2, by omega, rfl, by first | rfl | simp⟩
theorem set_in (x : UInt8) : (Lib.setCells crs)[x.toNat]? = some (.bool (crs.contains x)) := Lib.setCells_at crs x
set_option maxRecDepth 100000 in
set_option maxHeartbeats 1000000 in
theorem inset_any (b : Nat) (x : UInt8) (v : Bool) (w : World) (hc : w.cell? ⟨b, x.toNat, none⟩ = some (.bool v)) :
    Calls Tryd.prog 87 #[.pointer (some ⟨b, 0, none⟩), .int .u8 x.toNat] w fun e w' => e = .returned (.bool v) ∧ w' = w := by
  have hx256 : (x.toNat : Int) < 256 := by have := UInt8.toNat_lt x; omega
  have hx0 : (0 : Int) ≤ (x.toNat : Int) := by omega
  go_enter Tryd.func87, Tryd.ntmps87
  go_wp2
  go_ret
  exact ⟨rfl, rfl⟩
theorem ascii_any (n : Nat) (w : World) :
    Calls Tryd.prog 85 #[.int .i64 n] w fun e w' => e = .returned (.bool (decide (8 < (n : Int)))) ∧ w' = w := by
  go_enter Tryd.func85, Tryd.ntmps85
  go_wp2
  go_ret
  exact ⟨rfl, rfl⟩
end Go.Proofs.YtoalnfkjpdgbiaaDoor

namespace Go.Proofs.YtoalnfkjpdgbiaaDoor
open Go.RowKit
set_option linter.unusedVariables false
theorem ext83 (s : ByteArray) (c : Int) (w : World) : (callFunc 83 #[.string s, .int .u8 c]).run Tryd.prog w = .ok (.value (.int .i64 (Lib.indexByte s.data.toList c.toNat.toUInt8))) w := by
  rw [run_callFunc_extern Tryd.func83 (by kernel_rfl) (by kernel_rfl) (by kernel_rfl) (e := Extern.BytealgIndexByte.indexByte) (by kernel_rfl), Lib.run_indexByteString]
  rfl
theorem gMax : Tryd.prog.globals.findIdx? (·.name == "internal/bytealg.MaxLen") = some 0 := by kernel_rfl
theorem ext89 (a b : ByteArray) (w : World) (m : Int) (hm : w.cell? ⟨0, 0, none⟩ = some (.int .i64 m)) (h2 : 2 ≤ b.size) (hb : (b.size : Int) ≤ m) (ha : a.size < 4294967281) :
    (callFunc 89 #[.string a, .string b]).run Tryd.prog w = .ok (.value (.int .i64 (Lib.index a.data.toList b.data.toList))) w := by
  rw [run_callFunc_extern Tryd.func89 (by kernel_rfl) (by kernel_rfl) (by kernel_rfl) (e := Extern.BytealgIndex.index) (by kernel_rfl), Lib.run_indexString a b w _ m gMax hm h2 hb ha]
  rfl
/-- bytes that lie in the memory, wherever -/
def Bs (P : Nat → Prop) (w : World) (v : Value) (l : List UInt8) : Prop := ∃ ao c, v = .slice ao l.length c ∧ l.length ≤ c ∧ (l = [] ∨ ∃ g o, ao = some ⟨g, o, none⟩ ∧ P g ∧ ∀ j x, l[j]? = some x → w.cell? ⟨g, o + j, none⟩ = some (.int .u8 (x.toNat : Int)))
theorem Bs.mono {P P' : Nat → Prop} {w w' : World} {v : Value} {l : List UInt8} (h : Bs P w v l) (hP : ∀ b, P b → P' b) (hw : ∀ b, P b → w'.heap[b]? = w.heap[b]?) : Bs P' w' v l := by
  obtain ⟨ao, c, h1, h2, h3⟩ := h
  refine ⟨ao, c, h1, h2, h3.imp id ?_⟩
  rintro ⟨g, o, q1, q2, q3⟩
  exact ⟨g, o, q1, hP g q2, fun j x hx => (World.cell?_of_block (hw g q2)).trans (q3 j x hx)⟩
/-- what the library's reading of bytes wants of its variables -/
def Vars (w : World) : Prop := Lib.Utf8Tabs 1 2 w ∧ ∃ m, w.cell? ⟨0, 0, none⟩ = some (.int .i64 m)
theorem byte32 (x : UInt8) : wrap32 (x.toNat : Int) = (x.toNat : Int) := by
  have := UInt8.toNat_lt x
  unfold wrap32; omega
theorem ia_nil : Lib.indexAny [] crs = -1 := rfl
theorem ia_one (x : UInt8) : Lib.indexAny [x] crs = if crs.contains x then 0 else -1 := by
  unfold Lib.indexAny
  split
  · rfl
  · rfl
theorem wide_out (x : UInt8) (h : 128 ≤ x.toNat) : crs.contains x = false := by
  cases hq : crs.contains x with
  | false => rfl
  | true =>
    exfalso
    simp [crs] at hq
    rcases hq with rfl | rfl <;> (revert h; decide)
theorem ib_cr (x : UInt8) : decide (0 ≤ Lib.indexByte ((⟨#[13, 10]⟩ : ByteArray)).data.toList x) = crs.contains x := (Lib.contains_iff_indexByte [13, 10] x).symm
set_option maxRecDepth 100000 in
set_option maxHeartbeats 4000000 in
theorem bidx_nil (ao : Option Addr) (c : Nat) (w : World) :
    Calls Tryd.prog 69 #[.slice ao 0 c, .string ⟨#[13, 10]⟩] w fun e w' => e = .returned (.int .i64 (-1)) ∧ Below w.heap.size w w' := by
  have z0 : decide ((8 : Int) < ((0 : Nat) : Int)) = false := by decide
  go_enter Tryd.func69, Tryd.ntmps69
  go_wp2_with fail
  refine (ascii_any 0 _).mono ?_
  rintro e w' ⟨rfl, hw⟩
  rw [hw, z0]
  go_wp2
  go_loop [12] (fun i => i = .int .i64 0) (fun _ => 0)
  case atStart => rfl
  case round =>
    subst hrel
    go_wp2
    go_ret
    exact ⟨rfl, Below.refl _ _⟩
set_option maxRecDepth 100000 in
set_option maxHeartbeats 4000000 in
theorem bidx_one (g o c : Nat) (x : UInt8) (w : World) (hx : w.cell? ⟨g, o, none⟩ = some (.int .u8 (x.toNat : Int))) :
    Calls Tryd.prog 69 #[.slice (some ⟨g, o, none⟩) 1 c, .string ⟨#[13, 10]⟩] w fun e w' => e = .returned (.int .i64 (if crs.contains x then 0 else -1)) ∧ Below w.heap.size w w' := by
  have hw32 := byte32 x
  by_cases h : 128 ≤ x.toNat
  · rw [wide_out x h]
    have h1 : (128 : Int) ≤ (x.toNat : Int) := by omega
    have h2 : decide ((128 : Int) ≤ (x.toNat : Int)) = true := decide_eq_true h1
    clear h
    go_enter Tryd.func69, Tryd.ntmps69
    go_wp2
    go_loopg [5] 2 (fun g _ wx => ∃ i : Nat, i + g = 2 ∧ wx = w.iter ⟨#[13, 10]⟩ i)
    case atStart => exact ⟨0, by omega, rfl⟩
    case round =>
      obtain ⟨i, hig, rfl⟩ := hrel
      cases gk with
      | zero =>
        obtain rfl : i = 2 := by omega
        have hnx' : ∀ ty, (Instr.next (.pointer (some ⟨w.heap.size, 0, none⟩)) true ty).run Tryd.prog (w.iter ⟨#[13, 10]⟩ 2) = .ok (.tuple #[.bool false]) (w.iter ⟨#[13, 10]⟩ 2) := fun ty => run_next_end (P := Tryd.prog) w ⟨#[13, 10]⟩ 2 ty (by decide)
        go_wp2
        go_ret
        exact ⟨rfl, (Below.refl _ _).alloc (Nat.le_refl _) _⟩
      | succ g =>
        have hi : i < (⟨#[13, 10]⟩ : ByteArray).size := by show i < 2; omega
        rcases (show i = 0 ∨ i = 1 by omega) with rfl | rfl
        · have hnx := fun ty => run_next_ascii (P := Tryd.prog) w ⟨#[13, 10]⟩ 0 ty hi (a0 _)
          have e1 := z0 hi
          go_wp2
          go_roundg g
          case measure => omega
          case rel => exact ⟨1, by omega, rfl⟩
        · have hnx := fun ty => run_next_ascii (P := Tryd.prog) w ⟨#[13, 10]⟩ 1 ty hi (a1 _)
          have e1 := z1 hi
          go_wp2
          go_roundg g
          case measure => omega
          case rel => exact ⟨2, by omega, rfl⟩
  · have h1 : ¬ (128 : Int) ≤ (x.toNat : Int) := by omega
    have h2 : decide ((128 : Int) ≤ (x.toNat : Int)) = false := decide_eq_false h1
    have ex := ext83 ⟨#[13, 10]⟩ (x.toNat : Int)
    have hback : ((x.toNat : Int)).toNat.toUInt8 = x := by simp
    rw [hback] at ex
    have hb := ib_cr x
    generalize Lib.indexByte ((⟨#[13, 10]⟩ : ByteArray)).data.toList x = v at ex hb
    clear h hback
    cases hq : crs.contains x with
    | true =>
      rw [hq] at hb
      have hv : (0 : Int) ≤ v := of_decide_eq_true hb
      clear hq
      go_enter Tryd.func69, Tryd.ntmps69
      go_wp2
      go_ret
      exact ⟨rfl, Below.refl _ _⟩
    | false =>
      rw [hq] at hb
      have hv : ¬ (0 : Int) ≤ v := of_decide_eq_false hb
      clear hq
      go_enter Tryd.func69, Tryd.ntmps69
      go_wp2
      go_ret
      exact ⟨rfl, Below.refl _ _⟩
end Go.Proofs.YtoalnfkjpdgbiaaDoor
