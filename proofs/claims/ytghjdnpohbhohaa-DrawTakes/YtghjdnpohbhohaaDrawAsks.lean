/-
  Contracts over this program: one question to a source and to the document's own (asks); questions to no source.
-/
import Derived.Test.YtghjdnpohbhohaaDrawRef
namespace Go.Proofs.Ytghjdnpohbhohaa
open Go.RowKit
/-- the two blocks s and m alone have turned, and new ones may have come -/
def Two (s m : Nat) (w w' : World) : Prop := (∀ B, B ≤ s → B ≤ m → B ≤ w.heap.size → Below B w w') ∧ ∀ k, k < w.heap.size → k ≠ s → k ≠ m → w'.heap[k]? = w.heap[k]?
theorem Two.refl (s m : Nat) (w : World) : Two s m w w := ⟨fun _ _ _ _ => Below.refl _ _, fun _ _ _ _ => rfl⟩
theorem Two.size {s m : Nat} {w w' : World} (h : Two s m w w') : w.heap.size ≤ w'.heap.size := (h.1 0 (Nat.zero_le _) (Nat.zero_le _) (Nat.zero_le _)).size
theorem Two.alloc {s m : Nat} {w w' : World} (h : Two s m w w') (o : Obj) : Two s m w (w'.alloc o) :=
  ⟨fun B h1 h2 h3 => (h.1 B h1 h2 h3).alloc (Nat.le_trans h3 h.size) o, fun k h1 h2 h3 => by rw [Below.heap_alloc _ _ _ (Nat.lt_of_lt_of_le h1 h.size)]; exact h.2 k h1 h2 h3⟩
theorem Two.only1 {s m : Nat} {w w' w'' : World} (h : Two s m w w') (g : Only s w' w'') : Two s m w w'' :=
  ⟨fun B h1 h2 h3 => (h.1 B h1 h2 h3).trans (g.1 B h1), fun k h1 h2 h3 => by rw [g.2.2 k h2]; exact h.2 k h1 h2 h3⟩
theorem Two.only2 {s m : Nat} {w w' w'' : World} (h : Two s m w w') (g : Only m w' w'') : Two s m w w'' :=
  ⟨fun B h1 h2 h3 => (h.1 B h1 h2 h3).trans (g.1 B h2), fun k h1 h2 h3 => by rw [g.2.2 k h3]; exact h.2 k h1 h2 h3⟩
theorem Only.drewN {b : Nat} (w : World) (n : Nat) : Only b w (w.drewN n) := only_drew (Only.refl b w) n
/-- a source and the document's own, that stand alike -/
def Pair (w : World) (s gs m gm : Nat) (Z : List Nat) : Prop :=
  (s ≠ m ∧ gs ≠ m ∧ gm ≠ s) ∧ (s < w.heap.size ∧ gs < w.heap.size ∧ m < w.heap.size ∧ gm < w.heap.size) ∧ (∀ x ∈ Z, (x : Int) ≤ 18446744073709551615) ∧ ∃ L t, Src w s gs L ∧ RSrc w m gm Z t ∧ Z.drop t = L
theorem Pair.kept {w w' : World} {s gs m gm : Nat} {Z : List Nat} (h : Pair w s gs m gm Z) (hz : w.heap.size ≤ w'.heap.size) (hk : ∀ k, k < w.heap.size → (k = s ∨ k = gs ∨ k = m ∨ k = gm) → w'.heap[k]? = w.heap[k]?) : Pair w' s gs m gm Z := by
  obtain ⟨h1, ⟨h2, h3, h4, h5⟩, h6, L, t, h7, h8, h9⟩ := h
  exact ⟨h1, ⟨by omega, by omega, by omega, by omega⟩, h6, L, t, h7.kept (hk _ h2 (by simp)) (hk _ h3 (by simp)), h8.kept (hk _ h4 (by simp)) (hk _ h5 (by simp)), h9⟩
theorem head_le {Z : List Nat} (h : ∀ x ∈ Z, (x : Int) ≤ 18446744073709551615) (t : Nat) : ((Z.drop t).headD 0 : Int) ≤ 18446744073709551615 := by
  cases e : Z.drop t with
  | nil => decide
  | cons x l => exact h x (List.mem_of_mem_drop (i := t) (by rw [e]; simp))
/-- both have told a number -/
theorem Pair.step {w w1 w2 : World} {s gs m gm : Nat} {Z : List Nat} {t t' : Nat} (hd : s ≠ m ∧ gs ≠ m ∧ gm ≠ s) (hs : s < w.heap.size ∧ gs < w.heap.size ∧ m < w.heap.size ∧ gm < w.heap.size) (hz : ∀ x ∈ Z, (x : Int) ≤ 18446744073709551615)
    (h1 : RSrc w1 m gm Z t') (hn : Nxt Z t t') (h2 : Src w2 s gs (Z.drop t).tail) (ho : Only s w1 w2) (hw : w.heap.size ≤ w1.heap.size) : Pair w2 s gs m gm Z := by
  have e := ho.2.1
  refine ⟨hd, ⟨by omega, by omega, by omega, by omega⟩, hz, _, t', h2, h1.kept (ho.2.2 _ (fun h => hd.1 h.symm)) (ho.2.2 _ hd.2.2), hn⟩
set_option maxHeartbeats 1000000 in
theorem asks_any (w : World) (s gs m gm : Nat) (Z : List Nat) (who op : Int) (n : Nat) (h : Pair w s gs m gm Z) :
    Calls Try.prog 15 #[.pointer (some ⟨s, 0, none⟩), .pointer (some ⟨m, 0, none⟩), .agg #[.int .i64 who, .int .i64 op, .int .u64 n]] w fun e w' => e = .returned (.bool true) ∧ Pair w' s gs m gm Z ∧ Two s m w w' := by
  have hp := h.kept (w' := w.alloc (.cells #[.int .i64 who, .int .i64 op, .int .u64 n] 35)) (by simp) (fun k hk _ => Below.heap_alloc _ _ _ hk)
  have h2 := (Two.refl s m w).alloc (.cells #[.int .i64 who, .int .i64 op, .int .u64 n] 35)
  have hwz : w.heap.size < (w.alloc (.cells #[.int .i64 who, .int .i64 op, .int .u64 n] 35)).heap.size := by simp
  have hcw : ∀ w', Only m (w.alloc (.cells #[.int .i64 who, .int .i64 op, .int .u64 n] 35)) w' → w'.cell? ⟨w.heap.size, 2, none⟩ = some (.int .u64 n) := by
    intro w' ho
    obtain ⟨_, ⟨_, _, hm, _⟩, _⟩ := h
    rw [World.cell?_of_block (w := w.alloc (.cells #[.int .i64 who, .int .i64 op, .int .u64 n] 35)) (a := ⟨w.heap.size, 2, none⟩) (ho.2.2 _ (by show w.heap.size ≠ m; omega))]
    simp
  obtain ⟨hd, hs, hz, L, t, h7, h8, rfl⟩ := hp
  clear h
  have HP := keep hd
  have HS := keep hs
  have HZ := keep hz
  have H2 := keep h2
  clear h2
  by_cases c0 : (op == 0) = true
  · have mR := rnext_any _ m gm t Z h8
    have mS : ∀ w', Only m (w.alloc (.cells #[.int .i64 who, .int .i64 op, .int .u64 n] 35)) w' → _ := fun w' ho => next_any w' s gs _ (h7.kept (ho.2.2 _ hd.1) (ho.2.2 _ hd.2.1))
    clear h7 h8 hd hs hz hcw
    go_enter Try.func15, Try.ntmps15
    go_wp2_with fail
    refine mR.mono ?_
    rintro e w1 ⟨rfl, t', hr, hn, ho⟩
    have mS1 := mS w1 ho
    have HR := keep hr
    have HN := keep hn
    have HO := keep ho
    clear hr hn ho mS mR
    go_wp2_with fail
    refine mS1.mono ?_
    rintro e w2 ⟨rfl, hsr, ho2⟩
    have HSR := keep hsr
    have HO2 := keep ho2
    clear hsr ho2 mS1
    go_wp2
    go_ret
    exact ⟨rfl, Pair.step HP.out HS.out HZ.out HR.out HN.out HSR.out HO2.out (by rw [HO.out.2.1]; omega), (H2.out.only2 HO.out).only1 HO2.out⟩
  · have c0 : (op == 0) = false := by simpa using c0
    by_cases c1 : (op == 1) = true
    · have mR := rbelow_any _ m gm t n Z h8 (head_le hz t)
      have mS : ∀ w', Only m (w.alloc (.cells #[.int .i64 who, .int .i64 op, .int .u64 n] 35)) w' → _ := fun w' ho => below_any w' s gs n _ (h7.kept (ho.2.2 _ hd.1) (ho.2.2 _ hd.2.1)) (head_le hz t)
      clear h7 h8 hd hs hz
      go_enter Try.func15, Try.ntmps15
      go_wp2_with fail
      refine mR.mono ?_
      rintro e w1 ⟨rfl, t', hr, hn, ho⟩
      have mS1 := mS w1 ho
      have hc := hcw w1 ho
      have HR := keep hr
      have HN := keep hn
      have HO := keep ho
      clear hr hn ho mS mR hcw
      generalize (if n = 0 then 0 else (Z.drop t).headD 0 % n) = x at *
      go_wp2_with fail
      refine mS1.mono ?_
      rintro e w2 ⟨rfl, hsr, ho2⟩
      have HSR := keep hsr
      have HO2 := keep ho2
      clear hsr ho2 mS1
      go_wp2
      go_ret
      exact ⟨rfl, Pair.step HP.out HS.out HZ.out HR.out HN.out HSR.out HO2.out (by rw [HO.out.2.1]; omega), (H2.out.only2 HO.out).only1 HO2.out⟩
    · have c1 : (op == 1) = false := by simpa using c1
      have mS := left_any _ s gs _ h7
      have mR := rleft_any _ m gm t Z h8
      have H7 := keep h7
      have H8 := keep h8
      clear h7 h8 hd hs hz hcw
      generalize ((Z.drop t).length : Int) = x at *
      go_enter Try.func15, Try.ntmps15
      go_wp2_with fail
      refine mS.mono ?_
      rintro e w1 ⟨rfl, rfl⟩
      go_wp2_with fail
      refine mR.mono ?_
      rintro e w1 ⟨rfl, nq, rfl⟩
      go_wp2
      go_ret
      exact ⟨rfl, ⟨HP.out, HS.out, HZ.out, _, t, H7.out.kept rfl rfl, H8.out.kept rfl rfl, rfl⟩, H2.out.only2 (Only.drewN _ nq)⟩
set_option maxHeartbeats 400000 in
theorem nleft_any (w : World) : Calls Try.prog 14 #[.pointer none] w fun e w' => e = .returned (.int .i64 0) ∧ w' = w := by
  go_enter Try.func14, Try.ntmps14
  go_wp2
  go_ret
  exact ⟨rfl, rfl⟩
set_option maxHeartbeats 400000 in
theorem nnext_any (w : World) : Calls Try.prog 12 #[.pointer none] w fun e w' => e = .returned (.int .u64 0) ∧ w' = w := by
  go_enter Try.func12, Try.ntmps12
  go_wp2_with fail
  refine (nleft_any _).mono ?_
  rintro e w1 ⟨rfl, rfl⟩
  go_wp2
  go_ret
  exact ⟨rfl, rfl⟩
set_option maxHeartbeats 400000 in
theorem nbelow_any (w : World) : Calls Try.prog 13 #[.pointer none, .int .u64 5] w fun e w' => e = .returned (.int .u64 0) ∧ w' = w := by
  go_enter Try.func13, Try.ntmps13
  go_wp2_with fail
  refine (nnext_any _).mono ?_
  rintro e w1 ⟨rfl, rfl⟩
  go_wp2
  go_ret
  exact ⟨rfl, rfl⟩
end Go.Proofs.Ytghjdnpohbhohaa
