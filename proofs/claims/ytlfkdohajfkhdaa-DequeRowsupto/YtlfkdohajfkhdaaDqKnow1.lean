/-
  Contracts over this program: the statements' own filled.
-/
import Derived.Test.YtlfkdohajfkhdaaDqKnow0
namespace Go.Proofs.Ytlfkdohajfkhdaa
open Go.RowKit
set_option linter.unusedVariables false
theorem conv1 (w : World) (k : Nat) (hk : k < 256) : (convert 47 9 (.slice (some ⟨w.heap.size, 0, none⟩) 1 1)).run Try.prog (w.alloc (.cells #[.int .u8 (k : Int)] 5)) = .ok (.string (bt1 k)) (w.alloc (.cells #[.int .u8 (k : Int)] 5)) := by
  refine run_convert_bytes_back (P := Try.prog) _ 47 9 5 ⟨w.heap.size, 0, none⟩ 1 [UInt8.ofNat k] Try.underlying47 Try.underlying5 Try.underlying9 (fun j hj => ?_)
  have : j = 0 := by simpa using hj
  subst this
  have e : (⟨w.heap.size, 0, none⟩ : Addr).add 0 = ⟨w.heap.size, 0, none⟩ := by unfold Addr.add; split <;> simp_all
  rw [e, cell_of_row _ _ _ _ _ _ (heap_alloc_new _ _)]
  show some (Value.int .u8 (k : Int)) = some (Value.int .u8 ((UInt8.ofNat k).toNat : Int))
  rw [UInt8.toNat_ofNat', Nat.mod_eq_of_lt (by omega)]
set_option maxRecDepth 100000 in
set_option maxHeartbeats 1000000 in
theorem filled_any (w : World) (n : Nat) (hn : n ≤ 200) : Calls Try.prog 31 #[.int .i64 n] w fun e w' => e = .returned (ptr w.heap.size) ∧ Kn w w.heap.size (fillC n) w' := by
  go_enter Try.func31, Try.ntmps31
  go_wp2_with fail
  refine (new_any w).mono ?_
  rintro _ w2 ⟨rfl, hd2, hb2, hz2⟩
  have K0 : Kept (Kn w w.heap.size (fillC 0) w2) := by
    refine ⟨[], hd2, rfl, ?_, hb2⟩
    rintro k (e | ⟨x, hx, _⟩)
    · exact Nat.le_of_eq e.symm
    · cases hx
  obtain ⟨b, hb⟩ : ∃ b, w.heap.size = b := ⟨_, rfl⟩
  rw [hb] at K0
  rw [hb]
  have HBb := keep hb
  clear hd2 hb2 hz2 hb
  go_wp2
  go_loopw [7] (fun i wr => ∃ k : Nat, k ≤ n ∧ i = .int .i64 k ∧ Kept (Kn w b (fillC k) wr)) (fun i _ => n - (intOf i).toNat)
  case atStart => exact ⟨0, Nat.zero_le _, rfl, K0⟩
  case round =>
    obtain ⟨k, hk, rfl, KK⟩ := hrel
    clear K0
    by_cases hlt : k < n
    · have hz : (k : Int) < (n : Int) := by omega
      have hw8 : IntKind.u8.wrap (k : Int) = (k : Int) := by rw [IntKind.wrap_u8]; omega
      have cv := conv1 wr k (by omega)
      have hba : Below wr.heap.size wr (wr.alloc (.cells #[.int .u8 (k : Int)] 5)) := (Below.refl _ _).alloc (Nat.le_refl _) _
      have m1 := keep (kn_do (Kn.stb _ _ KK.out hba) (dos_push (b := b) (L := fillC k) false (bt1 k) (by show 1 ≤ _; decide) (by rw [fillC_len]; omega)))
      clear KK hba
      go_wp2_with fail
      refine m1.out.mono ?_
      rintro _ w3 ⟨rfl, k3⟩
      have K3 : Kept (Kn w b (fillC (k + 1)) w3) := k3
      clear m1 k3 cv
      go_wp2
      go_roundw
      case measure => simp [intOf]; omega
      case rel => exact ⟨k + 1, by omega, by go_num, K3⟩
    · have hz : ¬ (k : Int) < (n : Int) := by omega
      obtain rfl : k = n := by omega
      go_wp2
      go_ret
      rw [HBb.out]
      exact ⟨rfl, KK.out⟩
theorem kn_base {W w w' : World} {b : Nat} {L : List (List ByteArray)} (hW : Below W.heap.size W w) (h : Kn w b L w') : Kn W b L w' := by
  obtain ⟨cs, h1, h2, h3, h4⟩ := h
  exact ⟨cs, h1, h2, fun k hk => Nat.le_trans hW.size (h3 k hk), hW.trans (h4.mono hW.size)⟩
theorem kt_of {W w w' : World} {b1 b2 : Nat} {L1 L2 : List (List ByteArray)} (h1 : Kn W b1 L1 w) (h2 : Kn w b2 L2 w') : Kt W b1 b2 L1 L2 w' := by
  obtain ⟨c1, p1, p2, p3, p4⟩ := h1
  obtain ⟨c2, q1, q2, q3, q4⟩ := h2
  exact ⟨c1, c2, ⟨p1.below q4, p2, fun k hk => ⟨fun e => by have := p1.1.lt hk; have := q3 k e; omega, p3 k hk⟩⟩, ⟨q1, q2, fun k hk => Nat.le_trans p4.size (q3 k hk)⟩, p4.trans (q4.mono p4.size)⟩
/-- no deque at all: nothing is told -/
theorem rising_none (w : World) : Calls Try.prog 33 #[nul] w fun e w' => e = .returned (.func (.func 56) #[] #[.pointer (some ⟨w.heap.size, 0, none⟩)]) ∧ w' = w.alloc (.cells #[nul] 23) := by
  go_enter Try.func33, Try.ntmps33
  go_wp2
  go_ret
  exact ⟨rfl, rfl⟩
theorem each_none (w : World) : Calls Try.prog 16 #[nul] w fun e w' => e = .returned (.func (.func 47) #[] #[.pointer (some ⟨w.heap.size, 0, none⟩)]) ∧ w' = w.alloc (.cells #[nul] 23) := by
  go_enter Try.func16, Try.ntmps16
  go_wp2
  go_ret
  exact ⟨rfl, rfl⟩
set_option maxRecDepth 100000 in
set_option maxHeartbeats 1000000 in
theorem rising_nil (Bd : Nat) (W : World) : Iter Try.prog 56 #[.pointer (some ⟨Bd, 0, none⟩)] riV (fun _ w => w.cell? ⟨Bd, 0, none⟩ = some nul) [] W := by
  intro l J Jx hJ hJx hRd hY h0
  have r0 := hRd _ _ _ h0
  have H0 := keep h0
  clear hY hRd hJ h0 hJx
  refine (callsIn_wide (n := 5)).1 (callsIn_of_wp Try.func56 rfl trivial ?_ rfl)
  simp only [Try.ntmps56, List.size_toArray, List.length_cons, List.length_nil, Nat.reduceAdd, Nat.reduceSub, Array.replicate_succ, Array.replicate_zero, List.push_toArray, List.append_toArray, List.nil_append, List.cons_append]
  gi_wp2
  refine bodyPost_ret (results_none rfl _ _ _) rfl ?_
  exact ⟨⟨_, rfl⟩, (fun _ => False), (fun _ h => h.elim), H0.out⟩
/-- what stays while nothing is told -/
def NoI (W : World) (H Bd n : Nat) (M : Nat → Prop) (m : Nat) (w : World) : Prop :=
  (¬ M H ∧ w.heap[H]? = some (.cells #[.slice (some ⟨n, 0, none⟩) 0 0] 32 (0, 0))) ∧ (¬ M Bd ∧ w.heap[Bd]? = some (.cells #[nul] 23 (0, 0))) ∧ Below W.heap.size W w ∧ ∀ k, M k → W.heap.size ≤ k
theorem NoI.abd {W : World} {H Bd n : Nat} : Abd (NoI W H Bd n) := by
  rintro M M' m A B ⟨⟨h1, h1'⟩, ⟨h4, h4'⟩, h5, h6⟩ hs hx
  exact ⟨keepB hs hx _ _ h1 h1', keepB hs hx _ _ h4 h4', h5.trans (hs.below h5.size h6), hx.ge h5.size h6⟩
set_option maxRecDepth 100000 in
set_option maxHeartbeats 2000000 in
theorem each_nil (Bd : Nat) (W : World) (hBd : W.cell? ⟨Bd, 0, none⟩ = some nul) :
    Iter Try.prog 47 #[.pointer (some ⟨Bd, 0, none⟩)] rtV (fun _ _ => True) [] W := by
  intro l J Jx hJ hJx _ hY h0
  have hBl : Bd < W.heap.size := lt_cell hBd
  have mL := len_nil W
  obtain ⟨w1, mk, hS2, hg2, hlt2⟩ := make_texts W 0 (by decide)
  have hb1 : Below W.heap.size W w1 := (Below.refl _ W).grown hg2 (Nat.le_refl _) (fun k h => by cases h)
  obtain ⟨w2, hw2⟩ : ∃ w2, w1.alloc (.cells #[.slice (some ⟨W.heap.size, 0, none⟩) 0 0] 32) = w2 := ⟨_, rfl⟩
  have hb12 : Below w1.heap.size w1 w2 := by rw [← hw2]; exact (Below.refl _ w1).alloc (Nat.le_refl _) _
  have h2S : w2.heap[w1.heap.size]? = some (.cells #[.slice (some ⟨W.heap.size, 0, none⟩) 0 0] 32 (0, 0)) := by rw [← hw2]; exact heap_alloc_new _ _
  have hz2 : w2.heap.size = w1.heap.size + 1 := by rw [← hw2]; simp
  have hb2 : Below W.heap.size W w2 := hb1.trans (hb12.mono hb1.size)
  have c2B : w2.cell? ⟨Bd, 0, none⟩ = some nul := (hb2.cell (p := ⟨Bd, 0, none⟩) hBl).trans hBd
  have H0 := keep h0
  clear hY h0
  refine callsIn_wide (n := 9) |>.1 (callsIn_of_wp_marks Try.func47 rfl trivial (wpIn_wide.2 ?_) rfl)
  simp only [Try.ntmps47, List.size_toArray, List.length_cons, List.length_nil, Nat.reduceAdd, Nat.reduceSub, Array.replicate_succ, Array.replicate_zero, List.push_toArray, List.append_toArray, List.nil_append, List.cons_append]
  go_wp2_with fail
  refine mL.mono ?_
  rintro _ w' ⟨rfl, hw'⟩
  obtain rfl := hw'.symm
  have mk : (Instr.makeSlice 32 (.int .i64 0) (.int .i64 0)).run Try.prog W = .ok (.slice (some ⟨W.heap.size, 0, none⟩) 0 0) w1 := mk
  go_wp2_with fail
  refine (rising_none _).mono ?_
  rintro _ w4 ⟨rfl, hw4⟩
  have hI0 : NoI W w1.heap.size w2.heap.size W.heap.size (fun _ => False) 0 w4 := by
    have hb24 : Below w2.heap.size w2 w4 := by rw [hw4]; exact (Below.refl _ w2).alloc (Nat.le_refl _) _
    exact ⟨⟨id, (hb24.block w1.heap.size (by omega)).trans h2S⟩, ⟨id, by rw [hw4]; exact heap_alloc_new _ _⟩, hb2.trans (hb24.mono hb2.size), fun _ h => h.elim⟩
  have HI0 := keep hI0
  clear hw4 hI0 mk hS2 hg2 hw2 hb12 h2S hb2 mL hb1 c2B
  go_wp2
  refine (wpIn_wide (n := 9)).1 (range_own (α := Nat × Nat) (gf := 56) (lb := #[.pointer (some ⟨w2.heap.size, 0, none⟩)]) (by simp [Act.eval]) (enters_of Try.func56 (by kernel_rfl) rfl) (encs := riV) (L := []) (fun _ => rfl)
    (fun W1 hb => rising_nil w2.heap.size W1)
    (NoI W w1.heap.size w2.heap.size W.heap.size) (fun _ _ _ _ => False) NoI.abd (fun _ _ _ _ _ _ h _ _ => h) HI0.out (fun M m W1 h => cell0 h.2.1.2) ?round ?done ?stop)
  case stop => exact fun _ _ _ _ _ _ h => h.elim
  case round => intro M' l' m x W1 hI hx; simp at hx
  case done =>
    intro M' D W5 hI hD hDk hM'
    have cH := cell0 hI.1.2
    have HI := keep hI
    have HDK := keep hDk
    clear hI hDk hM' HI0
    go_wp2
    refine (wpIn_wide (n := 9)).1 ?_
    gi_loopw [27] (fun i wr => i = .int .i64 0 ∧ wr = W5) (fun i _ => 0)
    case atStart => exact ⟨rfl, rfl⟩
    case round =>
      obtain ⟨rfl, rfl⟩ := hrel
      gi_wp2
      refine leave_mark HDK.out ?_
      refine ⟨_, results_none rfl _ _ _, ⟨_, rfl⟩, (fun k => W.heap.size ≤ k ∧ k < wr.heap.size), (fun k hk => by simpa using hk), Or.inl ?_⟩
      have h5 := hJ _ (fun k => W.heap.size ≤ k ∧ k < wr.heap.size) _ _ wr H0.out (Sep.of_below HI.out.2.2.1) (fun k hk => Or.inr hk)
      exact hJ _ _ _ _ _ h5 (Sep.put _ _ ⟨HI.out.2.2.2 D hD, (Array.getElem?_eq_some_iff.1 HDK.out).1⟩) (Ext.refl _ _ _)
end Go.Proofs.Ytlfkdohajfkhdaa
