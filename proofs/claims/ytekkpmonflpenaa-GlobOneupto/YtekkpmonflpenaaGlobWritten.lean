/-
  Contracts over this program: what written and means of the layer's own statements answer at any sign.
-/
import Derived.Test.YtekkpmonflpenaaGlobSignsL
import Derived.Laws.BytesArg
namespace Go.Proofs.Ytekkpmonflpenaa
open Go.RowKit
theorem cell_on {w w' : World} {a : Addr} {v : Value} (h : Below w.heap.size w w') (hc : w.cell? a = some v) : w'.cell? a = some v := by
  rw [h.cell (World.block_lt_of_cell? w a hc)]
  exact hc
/-- a slice that holds the bytes -/
def hasRow (w : World) (v : Value) (l : List UInt8) : Prop :=
  (v = .slice none 0 0 ∧ l = []) ∨ ∃ (a : Addr) (cap : Nat), v = .slice (some a) l.length cap ∧ l.length ≤ cap ∧ cap ≤ maxLen ∧ ∀ j (hj : j < l.length), w.cell? (a.add j) = some (.int .u8 (l[j].toNat : Int))
theorem hasRow_below {w w' : World} {v : Value} {l : List UInt8} (h : hasRow w v l) (hb : Below w.heap.size w w') : hasRow w' v l := by
  rcases h with h | ⟨a, cap, h1, h2, h3, h4⟩
  · exact .inl h
  · exact .inr ⟨a, cap, h1, h2, h3, fun j hj => cell_on hb (h4 j hj)⟩
theorem hasRow_text {w : World} {v : Value} {l : List UInt8} (h : hasRow w v l) : (convert 31 9 v).run Try.prog w = .ok (.string ⟨l.toArray⟩) w := by
  rcases h with ⟨rfl, rfl⟩ | ⟨a, cap, rfl, _, _, h4⟩
  · exact run_convert_bytes_nil w _ 5 Try.underlying31 Try.underlying5 0 0 _ Try.underlying9
  · exact run_convert_bytes_back w _ _ 5 a cap l Try.underlying31 Try.underlying5 Try.underlying9 h4
/-- the sign in a block of its own -/
def boxed (w : World) (B : Nat) (k : Int) (a b : UInt8) (v : Value) : Prop :=
  w.cell? ⟨B, 0, none⟩ = some (.int .i64 k) ∧ w.cell? ⟨B, 1, none⟩ = some (.int .u8 a.toNat) ∧ w.cell? ⟨B, 2, none⟩ = some (.int .u8 b.toNat) ∧ w.cell? ⟨B, 3, none⟩ = some v
theorem boxed_new (w : World) (k : Int) (a b : UInt8) (v : Value) : boxed (w.alloc (Obj.cells #[.int .i64 k, .int .u8 a.toNat, .int .u8 b.toNat, v] 33)) w.heap.size k a b v := by
  unfold boxed
  refine ⟨?_, ?_, ?_, ?_⟩ <;> simp [go_sem]
theorem boxed_below {w w' : World} {B : Nat} {k : Int} {a b : UInt8} {v : Value} (h : boxed w B k a b v) (hb : Below w.heap.size w w') : boxed w' B k a b v :=
  ⟨cell_on hb h.1, cell_on hb h.2.1, cell_on hb h.2.2.1, cell_on hb h.2.2.2⟩
theorem bel_alloc (w : World) (o : Obj) : Below w.heap.size w (w.alloc o) := (Below.refl _ _).alloc (Nat.le_refl _) o
theorem conv_one (u : World) (g : Nat) (a : UInt8) (hg : g = u.heap.size) :
    (convert 31 9 (.slice (some ⟨g, 0, none⟩) 1 1)).run Try.prog (u.alloc (Obj.cells #[.int .u8 a.toNat] 5)) = .ok (.string ⟨#[a]⟩) (u.alloc (Obj.cells #[.int .u8 a.toNat] 5)) := by
  subst hg
  have h := run_convert_bytes_back (P := Try.prog) (u.alloc (Obj.cells #[.int .u8 a.toNat] 5)) 31 9 5 ⟨u.heap.size, 0, none⟩ 1 [a] Try.underlying31 Try.underlying5 Try.underlying9 (by
    intro j hj
    match j, hj with
    | 0, _ => simp [Addr.add, go_sem])
  exact h
def signL (k : Int) (a b : UInt8) (v : Value) : Value := .agg #[.int .i64 k, .int .u8 a.toNat, .int .u8 b.toNat, v]
theorem ret_s {a b : ByteArray} (h : a = b) : Ending.returned (.string a) = .returned (.string b) := by rw [h]
theorem one_small (a : UInt8) : (⟨#[a]⟩ : ByteArray).size ≤ 549755813888 := by show 1 ≤ _; decide
theorem esc_one (a : UInt8) : Gb.escB ⟨#[a]⟩ = ⟨#[92, a]⟩ := rfl
theorem list_small (l : List UInt8) (hl : l.length ≤ 1048576) : (⟨l.toArray⟩ : ByteArray).size ≤ 549755813888 := by
  show l.toArray.size ≤ _
  rw [List.size_toArray]; omega
theorem escB_small (l : List UInt8) (hl : l.length ≤ 1048576) : (Gb.escB ⟨l.toArray⟩).size ≤ 2097152 := by
  rw [Gb.escB_size]
  show 2 * l.toArray.size ≤ _
  rw [List.size_toArray]; omega
set_option maxHeartbeats 4000000 in
set_option maxRecDepth 100000 in
theorem written_any (k : Int) (a b : UInt8) (v : Value) (l : List UInt8) (w : World) (hk1 : -9223372036854775808 ≤ k) (hk2 : k ≤ 9223372036854775807) (hl : l.length ≤ 1048576) (hrow : hasRow w v l) :
    Calls Try.prog 16 #[signL k a b v] w fun e w' => e = .returned (.string (Gb.wrB k a b l)) ∧ Below w.heap.size w w' := by
  have ha := a.toNat_lt
  have hb := b.toNat_lt
  have eA := fun w => escaped_any ⟨#[a]⟩ w (one_small a)
  have eB := fun w => escaped_any ⟨#[b]⟩ w (one_small b)
  rw [esc_one] at eA eB
  have hrow := keep hrow
  have cv := conv_one
  unfold signL
  go_enter Try.func16, Try.ntmps16
  have B0 := keep (boxed_new w k a b v)
  go_wp2_with fail
  refine (eA _).mono ?_
  rintro e w1 ⟨rfl, h1⟩
  have B1 := keep (boxed_below (boxed_below B0.out (bel_alloc _ _)) h1)
  obtain ⟨c10, c11, c12, c13⟩ := B1.out
  have b1 := keep (bel_trans (bel_trans (bel_alloc w _) (bel_alloc _ _)) h1)
  have hz1 := b1.out.size
  clear h1
  go_wp2_with fail
  refine (eB _).mono ?_
  rintro e w2 ⟨rfl, h2⟩
  clear c10 c11 c12 c13
  have B2 := keep (boxed_below (boxed_below B1.out (bel_alloc _ _)) h2)
  obtain ⟨c10, c11, c12, c13⟩ := B2.out
  have b2 := keep (bel_trans (bel_trans b1.out (bel_alloc _ _)) h2)
  have hrow2 := keep (hasRow_below hrow.out b2.out)
  have hz2 := b2.out.size
  clear h2 eA eB
  by_cases k1 : k = 1
  · subst k1
    go_wp2
    go_ret
    exact ⟨rfl, b2.out⟩
  by_cases k2 : k = 2
  · subst k2
    go_wp2
    go_ret
    exact ⟨rfl, b2.out⟩
  by_cases k3 : k = 3
  · subst k3
    have tx := hasRow_text hrow2.out
    have es := escB_small l hl
    go_wp2_with fail
    refine (escaped_any ⟨l.toArray⟩ _ (list_small l hl)).mono ?_
    rintro e w3 ⟨rfl, h3⟩
    have b3 := keep (bel_trans b2.out h3)
    go_wp2
    go_ret
    exact ⟨ret_s (Go.WideShapes.bytes_inj (by simp [Gb.wrB, Gb.wr, Gb.escB])), b3.out⟩
  by_cases k4 : k = 4
  · subst k4
    have tx := hasRow_text hrow2.out
    have es := escB_small l hl
    go_wp2_with fail
    refine (escaped_any ⟨l.toArray⟩ _ (list_small l hl)).mono ?_
    rintro e w3 ⟨rfl, h3⟩
    have b3 := keep (bel_trans b2.out h3)
    go_wp2
    go_ret
    exact ⟨ret_s (Go.WideShapes.bytes_inj (by simp [Gb.wrB, Gb.wr, Gb.escB])), b3.out⟩
  by_cases k5 : k = 5
  · subst k5
    go_wp2
    go_ret
    exact ⟨ret_s (Go.WideShapes.bytes_inj (by simp [Gb.wrB, Gb.wr])), b2.out⟩
  by_cases k6 : k = 6
  · subst k6
    go_wp2
    go_ret
    exact ⟨ret_s (Go.WideShapes.bytes_inj (by simp [Gb.wrB, Gb.wr])), b2.out⟩
  · have e1 : (k == 1) = false := beq_eq_false_iff_ne.2 k1
    have e2 : (k == 2) = false := beq_eq_false_iff_ne.2 k2
    have e3 : (k == 3) = false := beq_eq_false_iff_ne.2 k3
    have e4 : (k == 4) = false := beq_eq_false_iff_ne.2 k4
    have e5 : (k == 5) = false := beq_eq_false_iff_ne.2 k5
    have e6 : (k == 6) = false := beq_eq_false_iff_ne.2 k6
    go_wp2
    go_ret
    exact ⟨ret_s (by unfold Gb.wrB Gb.wr; rw [if_neg k1, if_neg k2, if_neg k3, if_neg k4, if_neg k5, if_neg k6]), b2.out⟩
end Go.Proofs.Ytekkpmonflpenaa
