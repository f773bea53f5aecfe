/-
  Contracts over this program: what the document's own item and set answer.
-/
import Derived.Test.YtmlpfijabdkbjaaGlobCut
import Derived.Lib.SlBuf
import Derived.Laws.ResultCell
namespace Go.Proofs.Ytmlpfijabdkbjaa
open Go.RowKit
theorem ret_isb {k l : IntKind} {a b c d : Int} {x y : Bool} (h : a = c) (g : b = d) (e : x = y) : Ending.returned (.tuple #[.int k a, .int l b, .bool x]) = .returned (.tuple #[.int k c, .int l d, .bool y]) := by rw [h, g, e]
set_option maxHeartbeats 1000000 in
theorem item_over (s : ByteArray) (k : Nat) (w : World) (ho : Gb.over s k) :
    Calls Try.prog 16 #[.string s, .int .i64 k] w fun e w' => e = .returned (.tuple #[.int .u8 0, .int .i64 k, .bool false]) ∧ w' = w := by
  rcases ho with ho | ⟨ho, h93⟩
  · go_enter Try.func16, Try.ntmps16
    go_wp2
    go_ret3
    exact ⟨rfl, rfl⟩
  · go_enter Try.func16, Try.ntmps16
    go_wp2
    go_ret3
    exact ⟨rfl, rfl⟩
set_option maxHeartbeats 1000000 in
theorem item_there (s : ByteArray) (k : Nat) (w : World) (hs : s.size ≤ 1099511627776) (hk : k < s.size) (h93 : ¬ (s[k].toNat : Int) = 93) :
    Calls Try.prog 16 #[.string s, .int .i64 k] w fun e w' => ∃ (b : UInt8) (n : Nat), e = .returned (.tuple #[.int .u8 b.toNat, .int .i64 n, .bool true]) ∧ w' = w ∧ Kept (Gb.rb (Gb.D s k) = (b, Gb.D s n)) ∧ k < n ∧ n ≤ s.size := by
  by_cases c1 : (s[k].toNat : Int) = 92
  · by_cases c2 : k + 1 < s.size
    · have st := keep (Gb.rb_two c2 hk c1)
      go_enter Try.func16, Try.ntmps16
      go_wp2
      go_ret3
      exact ⟨s[k+1], k + 2, ret_isb (by omega) (by omega) rfl, rfl, st, by omega, by omega⟩
    · have st := keep (Gb.rb_last hk c2)
      go_enter Try.func16, Try.ntmps16
      go_wp2
      go_ret3
      exact ⟨s[k], k + 1, ret_isb (by omega) (by omega) rfl, rfl, st, by omega, by omega⟩
  · have st := keep (Gb.rb_one hk c1)
    have d1 : ((s[k].toNat : Int) == 93) = false := beq_eq_false_iff_ne.2 h93
    go_enter Try.func16, Try.ntmps16
    go_wp2
    go_ret3
    exact ⟨s[k], k + 1, ret_isb (by omega) (by omega) rfl, rfl, st, by omega, by omega⟩
theorem bel_alloc0 (w : World) (o : Obj) : Below w.heap.size w (w.alloc o) := (Below.refl _ _).alloc (Nat.le_refl _) o
/-- the table, behind the first x bytes -/
def inRel (f ff : Nat → Bool) (a c : UInt8) (x : Nat) : Prop := ∀ i, i < 256 → ff i = (f i || (decide (i < x) && decide (min a.toNat c.toNat ≤ i ∧ i ≤ max a.toNat c.toNat)))
theorem in_zero (f : Nat → Bool) (a c : UInt8) : inRel f f a c 0 := by
  intro i _
  simp
theorem in_yes {f ff : Nat → Bool} {a c : UInt8} {x : Nat} (h : inRel f ff a c x) (hc : min a.toNat c.toNat ≤ x ∧ x ≤ max a.toNat c.toNat) : inRel f (upd ff x true) a c (x + 1) := by
  intro i hi
  unfold upd
  by_cases hx : i = x
  · subst hx
    rw [if_pos rfl, decide_eq_true (show i < i + 1 by omega), decide_eq_true hc]
    simp
  · rw [if_neg hx, h i hi]
    congr 2
    exact decide_eq_decide.2 (by omega)
theorem in_no {f ff : Nat → Bool} {a c : UInt8} {x : Nat} (h : inRel f ff a c x) (hc : ¬ (min a.toNat c.toNat ≤ x ∧ x ≤ max a.toNat c.toNat)) : inRel f ff a c (x + 1) := by
  intro i hi
  rw [h i hi]
  by_cases hx : i = x
  · subst hx
    rw [decide_eq_false hc, Bool.and_false, Bool.and_false]
  · congr 2
    exact decide_eq_decide.2 (by omega)
theorem in_all {f ff : Nat → Bool} {a c : UInt8} (h : inRel f ff a c 256) (x : UInt8) : ff x.toNat = (f x.toNat || Gb.btw a c x) := by
  have hx := x.toNat_lt
  rw [h x.toNat (by omega), decide_eq_true (show x.toNat < 256 by omega), Bool.true_and]
  rfl
theorem tab_upd {w : World} {g : Nat} {s : Bool} {f : Nat → Bool} {o : UInt8} {p : Bool} (h : tabAt w g s f o p) (i : Nat) (b : Bool) (hi : i < 256) : tabAt (w.setCell ⟨g, 1 + i, none⟩ (.bool b)) g s (upd f i b) o p := by
  refine tab_set h (1 + i) (.bool b) (by omega) (fun j u hu hj => ?_) ?_
  · by_cases j0 : j = 0
    · subst j0; rw [row_star] at hu ⊢; exact hu
    · by_cases j1 : j < 257
      · have e : j = 1 + (j - 1) := by omega
        rw [e, row_byte _ _ _ _ (by omega)] at hu ⊢
        unfold upd at hu
        rw [if_neg (by omega)] at hu
        exact hu
      · by_cases j2 : j = 257
        · subst j2; rw [row_one] at hu ⊢; exact hu
        · by_cases j3 : j = 258
          · subst j3; rw [row_plain] at hu ⊢; exact hu
          · rw [List.getElem?_eq_none (by rw [row_len]; omega)] at hu; cases hu
  · rw [row_byte _ _ _ _ hi]
    unfold upd
    rw [if_pos rfl]
theorem tab_far {w : World} {g q : Nat} {s : Bool} {f : Nat → Bool} {o : UInt8} {p : Bool} (h : tabAt w g s f o p) (hq : q ≠ g) (i : Nat) (v : Value) : tabAt (w.setCell ⟨q, i, none⟩ v) g s f o p := by
  refine ⟨fun j u hu => ?_, fun j hj => ?_⟩
  · rw [farCell w _ _ _ hq]; exact h.1 j u hu
  · rw [farCell w _ _ _ hq, World.frozen?_setCell]; exact h.2 j hj
theorem row_one_cell (s : Bool) (f : Nat → Bool) (o : UInt8) (p : Bool) : (row s f o p).toArray.all (·.oneCell') = true := by
  apply all_oneCell_toArray
  intro v hv
  unfold row at hv
  simp only [List.mem_cons, List.mem_append, List.mem_map] at hv
  rcases hv with rfl | ⟨i, _, rfl⟩ | rfl | rfl | h
  · rfl
  · rfl
  · rfl
  · rfl
  · cases h
theorem row_same {s p : Bool} {f f' : Nat → Bool} {o : UInt8} (h : ∀ i, i < 256 → f i = f' i) : row s f o p = row s f' o p := by
  unfold row
  congr 2
  apply List.map_congr_left
  intro i hi
  rw [h i (List.mem_range.1 hi)]
theorem ret_agg {l l' : List Value} {k : IntKind} {a b : Int} (h : l = l') (g : a = b) : Ending.returned (.tuple #[.agg l.toArray, .int k a]) = .returned (.tuple #[.agg l'.toArray, .int k b]) := by rw [h, g]
/-- the first x places turned round -/
def flipRel (f ff : Nat → Bool) (x : Nat) : Prop := ∀ i, ff i = if i < x then !f i else f i
theorem flip_zero (f : Nat → Bool) : flipRel f f 0 := fun i => by rw [if_neg (by omega)]
theorem flip_more {f ff : Nat → Bool} {x : Nat} (h : flipRel f ff x) : flipRel f (upd ff x (!ff x)) (x + 1) := by
  intro i
  unfold upd
  by_cases hx : i = x
  · subst hx
    rw [if_pos rfl, if_pos (by omega), h i, if_neg (by omega)]
  · rw [if_neg hx, h i]
    by_cases hi : i < x
    · rw [if_pos hi, if_pos (by omega)]
    · rw [if_neg hi, if_neg (by omega)]
theorem flip_all {f ff : Nat → Bool} (h : flipRel f ff 256) {i : Nat} (hi : i < 256) : ff i = !f i := by rw [h i, if_pos hi]
theorem of_nat {i : Nat} (hi : i < 256) : (UInt8.ofNat i).toNat = i := UInt8.toNat_ofNat_of_lt' hi
theorem tab_names (p : ByteArray) (a : Nat) {f : Nat → Bool} (h94 : ∀ h : a < p.size, ¬ (p[a].toNat : Int) = 94) (hf : ∀ x : UInt8, f x.toNat = Gb.names x (Gb.ins p a)) {i : Nat} (hi : i < 256) : f i = Gb.setM (Gb.ins p a) (UInt8.ofNat i) := by
  have h := hf (UInt8.ofNat i)
  rw [of_nat hi] at h
  rw [h]
  unfold Gb.setM
  rw [if_neg ?_]
  unfold Gb.ins
  by_cases ha : a < p.size
  · rw [Gb.D_cons p a ha]
    have hn := Gb.byte_no (b := 94) (h94 ha)
    intro e
    cases hD : Gb.D p (a + 1) with
    | nil =>
      rw [hD] at e
      simp only [Gb.setCut] at e
      split at e
      · cases e
      · simp only [List.head?_cons, Option.some.injEq] at e; exact hn e
    | cons d r =>
      rw [hD] at e
      simp only [Gb.setCut] at e
      split at e
      · cases e
      · split at e <;> (simp only [List.head?_cons, Option.some.injEq] at e; exact hn e)
  · rw [Gb.D_nil p a (by omega)]
    intro e; cases e
theorem ins_caret (p : ByteArray) (a : Nat) (h : a < p.size) (h94 : (p[a].toNat : Int) = 94) : Gb.ins p a = 94 :: Gb.ins p (a + 1) ∧ Gb.beh p a = Gb.beh p (a + 1) := by
  have e := Gb.byte_is (b := 94) h94
  unfold Gb.ins Gb.beh
  rw [Gb.D_cons p a h, e]
  cases Gb.D p (a + 1) <;> exact ⟨rfl, rfl⟩
theorem beh_caret (p : ByteArray) (a : Nat) (h : a < p.size) (h94 : (p[a].toNat : Int) = 94) : Gb.beh p a = Gb.beh p (a + 1) := (ins_caret p a h h94).2
theorem tab_names_not (p : ByteArray) (a : Nat) {f ff : Nat → Bool} (h : a < p.size) (h94 : (p[a].toNat : Int) = 94) (hf : ∀ x : UInt8, f x.toNat = Gb.names x (Gb.ins p (a + 1))) {i : Nat} (hff : ff i = !f i) (hi : i < 256) : ff i = Gb.setM (Gb.ins p a) (UInt8.ofNat i) := by
  have h1 := hf (UInt8.ofNat i)
  rw [of_nat hi] at h1
  rw [hff, h1, (ins_caret p a h h94).1]
  rfl
theorem row_arr (s : Bool) (f : Nat → Bool) (o : UInt8) (p : Bool) : (row s f o p).toArray.size = 259 := by rw [List.size_toArray, row_len]
theorem there_row {w : World} {g : Nat} (h : w.there g 0 259) (s : Bool) (f : Nat → Bool) (o : UInt8) (p : Bool) : w.there g 0 (row s f o p).toArray.size := by rw [row_arr]; exact h
theorem there_list {w : World} {g : Nat} (h : w.there g 0 259) (s : Bool) (f : Nat → Bool) (o : UInt8) (p : Bool) : w.there g 0 (row s f o p).length := by rw [row_len]; exact h
theorem info_list (s : Bool) (f : Nat → Bool) (o : UInt8) (p : Bool) : (Try.prog.info? 36).map (·.size) = some (row s f o p).length := by rw [row_len]; exact zero_sign.2
theorem info_arr (s : Bool) (f : Nat → Bool) (o : UInt8) (p : Bool) : (Try.prog.info? 36).map (·.size) = some (row s f o p).toArray.size := by rw [row_arr]; exact zero_sign.2
theorem load_row {w : World} {g : Nat} {s : Bool} {f : Nat → Bool} {o : UInt8} {p : Bool} (h : w.there g 0 259) :
    (loadVar 36 ⟨g, 0, none⟩).run Try.prog (w.setCells g 0 (row s f o p)) = .ok (.agg (row s f o p).toArray) (w.setCells g 0 (row s f o p)) :=
  run_loadVar_mid _ _ _ _ _ _ (World.rangeAt_setCells_same w g 0 _ (there_list h s f o p)) Try.underlying36 rfl (info_list s f o p)
theorem ret_cell {W : World} {tmps : Array Value} {g : Nat} {x : Int} {cs : Array Value} (h4 : tmps.getD 4 undef = .pointer (some ⟨g, 0, none⟩)) (h5 : tmps.getD 5 undef = .int .i64 x)
    (hl : (loadVar 36 ⟨g, 0, none⟩).run Try.prog W = .ok (.agg cs) W) : (results Try.f15 tmps).run Try.prog W = .ok (.tuple #[.agg cs, .int .i64 x]) W := by
  rw [results_cell_tmp rfl, h4, h5]
  simp only [asAddr, Sem.run_pure, Result.andThen, hl]
end Go.Proofs.Ytmlpfijabdkbjaa
