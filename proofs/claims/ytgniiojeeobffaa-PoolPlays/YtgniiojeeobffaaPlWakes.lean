/-
  Contracts over this program: New; the calls of no pool; what each statement asks first.
-/
import Derived.Test.YtgniiojeeobffaaPlOffer
namespace Go.Proofs.Ytgniiojeeobffaa
open Go.RowKit Go.Shelf
set_option linter.unusedVariables false
set_option linter.unusedSimpArgs false
set_option maxRecDepth 100000
/-- a pool that was made since w0, beside what lies in the blocks X -/
structure PX (w0 : World) (X : List (Nat × Obj)) (w : World) (b : Nat) (v : Value) (m : Nat) (l : List Ent) : Prop where
  pl : Pl w b v m l
  bel : Below w0.heap.size w0 w
  new : ∀ k ∈ bl b v, w0.heap.size ≤ k
  side : ∀ p ∈ X, w.heap[p.1]? = some p.2 ∧ p.1 ∉ bl b v
theorem PX.step {w0 w w' : World} {X : List (Nat × Obj)} {b m : Nat} {v v' : Value} {l l' : List Ent} (h : PX w0 X w b v m l) (hp : Pl w' b v' m l') (hf : Fm (bl b v) w (bl b v') w') : PX w0 X w' b v' m l' := by
  refine ⟨hp, ⟨hf.1.1.trans h.bel.os, hf.1.2.1.trans h.bel.tape, hf.1.2.2.trans h.bel.output, Nat.le_trans h.bel.size hf.2.1, fun k hk => ?_⟩, fun k hk => ?_, fun p hp' => ?_⟩
  · exact (hf.keeps (Nat.lt_of_lt_of_le hk h.bel.size) (fun h' => by have := h.new k h'; omega)).1.trans (h.bel.block k hk)
  · rcases Nat.lt_or_ge k w0.heap.size with h' | h'
    · exact absurd hk (hf.keeps (Nat.lt_of_lt_of_le h' h.bel.size) (fun h'' => by have := h.new k h''; omega)).2
    · exact h'
  · obtain ⟨h1, h2⟩ := h.side p hp'
    obtain ⟨e1, e2⟩ := hf.keeps (Array.getElem?_eq_some_iff.1 h1).1 h2
    exact ⟨e1.trans h1, e2⟩
theorem PX.did {w0 w w' : World} {X : List (Nat × Obj)} {b m : Nat} {v : Value} {l l' : List Ent} {r : Value} {e : Ending} (h : PX w0 X w b v m l) (hd : Did w b m v l' r e w') : e = .returned r ∧ ∃ v', PX w0 X w' b v' m l' := by
  obtain ⟨rfl, v', hp, hf⟩ := hd
  exact ⟨rfl, v', h.step hp hf⟩
theorem PX.below {w0 w w' : World} {X : List (Nat × Obj)} {b m : Nat} {v : Value} {l : List Ent} (h : PX w0 X w b v m l) (hb : Below w.heap.size w w') : PX w0 X w' b v m l :=
  h.step (h.pl.bel hb) (Fm.below hb)
/-- one block more beside -/
theorem PX.more {w0 w : World} {X : List (Nat × Obj)} {b m : Nat} {v : Value} {l : List Ent} (h : PX w0 X w b v m l) (o : Obj) : PX w0 ((w.heap.size, o) :: X) (w.alloc o) b v m l := by
  have h' := h.below (w' := w.alloc o) ((Below.refl _ w).alloc (Nat.le_refl _) _)
  refine ⟨h'.pl, h'.bel, h'.new, fun p hp => ?_⟩
  rcases List.mem_cons.1 hp with rfl | hp
  · exact ⟨heap_alloc_new _ _, fun hk => by have := h.pl.lt _ hk; simp at this⟩
  · exact h'.side p hp
theorem PX.less {w0 w : World} {X Y : List (Nat × Obj)} {b m : Nat} {v : Value} {l : List Ent} (h : PX w0 X w b v m l) (hs : ∀ p ∈ Y, p ∈ X) : PX w0 Y w b v m l := ⟨h.pl, h.bel, h.new, fun p hp => h.side p (hs p hp)⟩
set_option maxHeartbeats 1000000 in
theorem new_ok (w : World) (m : Nat) (h1 : 1 ≤ m) (h2 : m ≤ 16) :
    Calls Try.prog 8 #[.int .i64 (m : Int)] w fun e w' => e = .returned (.tuple #[.pointer (some ⟨w.heap.size, 0, none⟩), .int .i64 0]) ∧ PX w [] w' w.heap.size (.slice none 0 0) m [] := by
  have a1 : decide ((m : Int) < 1) = false := decide_eq_false (by omega)
  have a2 : decide ((16 : Int) < (m : Int)) = false := decide_eq_false (by omega)
  have a3 : ¬ (m : Int) < 1 := by omega
  have a4 : ¬ (16 : Int) < (m : Int) := by omega
  have a5 : ¬ 16 < m := by omega
  have a6 : ¬ m < 1 := by omega
  have a7 : ¬ m = 0 := by omega
  have hp : PX w [] (w.alloc (.cells #[.int .i64 (m : Int), .slice none 0 0] 51)) w.heap.size (.slice none 0 0) m [] := by
    refine ⟨⟨heap_alloc_new _ _, ⟨rfl, .inl ⟨rfl, rfl⟩⟩, fun e => by cases e⟩, (Below.refl _ w).alloc (Nat.le_refl _) _, fun k hk => ?_, fun p hp => by cases hp⟩
    rcases List.mem_cons.1 hk with rfl | hk
    · exact Nat.le_refl _
    · cases hk
  have HP := keep hp
  clear hp h1 h2
  go_enter Try.func8, Try.ntmps8
  go_wp2
  refine bodyPost_ret (results_tmp2 rfl _ _ _) rfl ?_
  exact ⟨rfl, HP.out⟩
set_option maxHeartbeats 1000000 in
theorem new_no (w : World) (m : Int) (h : m < 1 ∨ 16 < m) :
    Calls Try.prog 8 #[.int .i64 m] w fun e w' => e = .returned (.tuple #[.pointer none, .int .i64 3]) ∧ w' = w := by
  by_cases h1 : m < 1
  · have a1 : decide (m < 1) = true := decide_eq_true h1
    go_enter Try.func8, Try.ntmps8
    go_wp2
    refine bodyPost_ret (results_tmp2 rfl _ _ _) rfl ?_
    exact ⟨rfl, rfl⟩
  · have h2 : 16 < m := by omega
    have a1 : decide (m < 1) = false := decide_eq_false h1
    have a2 : decide (16 < m) = true := decide_eq_true h2
    clear h
    go_enter Try.func8, Try.ntmps8
    go_wp2
    refine bodyPost_ret (results_tmp2 rfl _ _ _) rfl ?_
    exact ⟨rfl, rfl⟩
def Bl (b : Nat) : ByteArray := ⟨#[UInt8.ofNat b]⟩
theorem tl_lit (a : Array UInt8) : (⟨a⟩ : ByteArray).toList = a.toList := by rw [ByteArray.toList_eq]
theorem wk1 : offL 1 (⟨#[97]⟩, 2) [] = [(⟨#[97]⟩, 2)] ∧ offB 1 (⟨#[97]⟩, 2) [] = true := by
  simp [offL, offB, put, del, isK, snr, tls_is, eqE, tl_lit]
theorem wk2 : offL 1 (⟨#[98]⟩, 1) [(⟨#[97]⟩, 2)] = [(⟨#[98]⟩, 1)] ∧ offB 1 (⟨#[98]⟩, 1) [(⟨#[97]⟩, 2)] = true := by
  simp [offL, offB, put, del, isK, snr, tls_is, eqE, tl_lit]
theorem wk3 : offL 1 (⟨#[97]⟩, 2) [(⟨#[98]⟩, 1)] = [(⟨#[98]⟩, 1)] ∧ offB 1 (⟨#[97]⟩, 2) [(⟨#[98]⟩, 1)] = false := by
  simp [offL, offB, put, del, isK, snr, tls_is, eqE, tl_lit]
theorem good0 : Good [] := ⟨List.Pairwise.nil, List.Pairwise.nil⟩
theorem good1 (x : Ent) : Good [x] := ⟨by simp, by simp⟩
set_option maxHeartbeats 1000000 in
theorem wakes_any (w : World) : Calls Try.prog 12 #[] w fun e w' => e = .returned (.bool true) ∧ Below w.heap.size w w' := by
  have MN := keep (new_ok w 1 (by omega) (by omega))
  have und := und_cd
  have stood := stood_cd
  have gua := guard_cd
  go_enter Try.func12, Try.ntmps12
  go_wp2_with fail
  refine MN.out.mono ?_
  rintro _ w1 ⟨rfl, p1⟩
  clear MN
  obtain ⟨b, hb⟩ : ∃ b, w.heap.size = b := ⟨_, rfl⟩
  rw [hb] at p1 ⊢
  have mO := offer_any w1 b 1 _ [] (⟨#[97]⟩, 2) p1.pl good0 (by simp) (by omega)
  rw [wk1.1, wk1.2] at mO
  unfold agE at mO
  dsimp only at mO
  have MO := keep mO
  clear mO
  go_wp2_with fail
  refine MO.out.mono ?_
  intro e w2 hd
  obtain ⟨rfl, v2, p2⟩ := p1.did hd
  clear hd p1 MO
  have mO := offer_any w2 b 1 _ _ (⟨#[98]⟩, 1) p2.pl (good1 _) (by simp) (by omega)
  rw [wk2.1, wk2.2] at mO
  unfold agE at mO
  dsimp only at mO
  have MO := keep mO
  clear mO
  go_wp2_with fail
  refine MO.out.mono ?_
  intro e w3 hd
  obtain ⟨rfl, v3, p3⟩ := p2.did hd
  clear hd p2 MO
  have mO := offer_any w3 b 1 _ _ (⟨#[97]⟩, 2) p3.pl (good1 _) (by simp) (by omega)
  rw [wk3.1, wk3.2] at mO
  unfold agE at mO
  dsimp only at mO
  have MO := keep mO
  clear mO
  go_wp2_with fail
  refine MO.out.mono ?_
  intro e w4 hd
  obtain ⟨rfl, v4, p4⟩ := p3.did hd
  clear hd p3 MO
  have MT := keep (take_any w4 b 1 _ _ p4.pl (by simp))
  unfold fstV at MT
  dsimp only at MT
  go_wp2_with fail
  refine MT.out.mono ?_
  intro e w5 hd
  obtain ⟨rfl, v5, p5⟩ := p4.did hd
  clear hd p4 MT
  have HB := keep p5.bel
  clear p5
  have er := eq_run (⟨#[98]⟩, 1) (⟨#[98]⟩, 1)
  rw [eqE_self] at er
  dsimp only at er
  go_wp2
  go_ret
  exact ⟨by simp, HB.out.alloc HB.out.size _⟩
end Go.Proofs.Ytgniiojeeobffaa
