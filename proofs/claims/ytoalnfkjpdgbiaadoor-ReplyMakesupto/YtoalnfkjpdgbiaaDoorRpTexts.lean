/-
  Contracts over this program: digit.Text for every number, by the library's own contract of strconv.FormatInt, and what the listed table gives.
-/
import Derived.Test.YtoalnfkjpdgbiaaDoorShelf
import Derived.Test.YtoalnfkjpdgbiaaDoorInts
import Derived.Test.YtoalnfkjpdgbiaaDoorRpRow
import Derived.Lib.LaidTab
import Derived.WalkSmall
namespace Go.Proofs.YtoalnfkjpdgbiaaDoor
open Go.RowKit
set_option linter.unusedVariables false
theorem below_grow {w w' : World} (h : ∃ k os, w' = Sort.grow (w.drewN k) os) : Below w.heap.size w w' := by
  obtain ⟨k, os, rfl⟩ := h
  refine ⟨rfl, rfl, rfl, ?_, ?_⟩
  · show w.heap.size ≤ (w.heap ++ os).size
    rw [Array.size_append]; omega
  · intro b hb
    show (w.heap ++ os)[b]? = w.heap[b]?
    rw [Array.getElem?_append_left hb]
abbrev Tab (w : World) : Prop := Lib.TabIs Tryd.prog w "internal/strconv.uint64pow10" .u64 Lib.pow10Tab
theorem text_str (n : Int) : (⟨(Lib.itoa n).toArray⟩ : ByteArray) = Rp.ofL (Lib.itoa n) := rfl
set_option maxHeartbeats 400000 in
theorem text_any (n : Int) (w : World) (h1 : -9223372036854775808 ≤ n) (h2 : n ≤ 9223372036854775807) (ht : Tab w) :
    Calls Tryd.prog 50 #[.int .i64 n] w fun e w' => e = .returned (.string (Rp.ofL (Lib.itoa n))) ∧ Below w.heap.size w w' := by
  have HT := keep ht
  clear ht
  go_enter Tryd.func50, Tryd.ntmps50
  go_wp2_with fail
  refine (Tryd.strconv_FormatInt_10 n h1 h2 _ HT.out).mono ?_
  rintro e w' ⟨rfl, hg⟩
  have hb := below_grow hg
  clear hg
  go_wp2
  go_ret
  exact ⟨rfl, hb⟩
theorem gTab : Tryd.prog.globalNamed "internal/strconv.uint64pow10" = some 3 := by kernel_rfl
theorem tab_lt {w : World} (h : Tab w) : 3 < w.heap.size := by
  apply Decidable.byContradiction
  intro hn
  unfold Tab Lib.TabIs World.var? at h
  rw [gTab, Option.bind_some, Array.getElem?_eq_none (by omega)] at h
  cases h
/-- a listed variable's block, and all below it, stay -/
theorem tab_below {B : Nat} {w w' : World} (h : Tab w) (hb : Below B w w') (hB : 3 < B) : Tab w' := by
  unfold Tab Lib.TabIs World.var? at h ⊢
  rw [gTab, Option.bind_some] at h ⊢
  rw [hb.block _ (by omega)]
  exact h
end Go.Proofs.YtoalnfkjpdgbiaaDoor
