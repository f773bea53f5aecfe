/-
  Contracts over this program: the statements' own keys: all keys of a dictionary, by its buckets.
-/
import Derived.Test.YtnkladifalnmnaaScanTabs
namespace Go.Proofs.Ytnkladifalnmnaa
open Go.RowKit Go.Shelf
attribute [local go_sem] Oper.semAt_some
theorem flat_le {α : Type} (X : List (List α)) (k : Nat) : (X.take k).flatten.length ≤ X.flatten.length := by
  have h := congrArg (fun l => (List.flatten l).length) (List.take_append_drop k X)
  simp only [List.flatten_append, List.length_append] at h
  omega
theorem flat_succ {α : Type} {X : List (List α)} {k : Nat} {ys : List α} (h : X[k]? = some ys) : (X.take (k + 1)).flatten = (X.take k).flatten ++ ys := by
  rw [List.take_add_one, h, List.flatten_append]
  simp
theorem flat_keys (t : Dc.Tab ByteArray Int) : (t.map Dc.keys).flatten = Dc.keys t.flatten := by
  induction t with
  | nil => rfl
  | cons c t ih => rw [List.map_cons, List.flatten_cons, List.flatten_cons, ih, Rv.keys_app]
theorem Rr.form {B : Nat} {w : World} {v : Value} {xss : List (List ByteArray)} (h : Rr B w v xss) : ∃ ao cap, v = .slice ao xss.length cap := by
  obtain ⟨vs, h1, _⟩ := h
  rcases h1.2 with ⟨rfl, h0⟩ | ⟨g, cap, cur, rfl, _⟩
  · exact ⟨none, 0, by rw [h0]⟩
  · exact ⟨_, _, rfl⟩
theorem Rr.at {B : Nat} {w : World} {ao : Option Addr} {n cap k : Nat} {xss : List (List ByteArray)} {xs : List ByteArray} (h : Rr B w (.slice ao n cap) xss) (hk : xss[k]? = some xs) :
    ∃ g ug un uc, ao = some ⟨g, 0, none⟩ ∧ w.cell? ⟨g, k, none⟩ = some (.slice (some ⟨ug, 0, none⟩) un uc) ∧ Ks B w (.slice (some ⟨ug, 0, none⟩) un uc) xs := by
  obtain ⟨vs, h1, h2⟩ := h
  have hl : k < vs.length := by have := (List.getElem?_eq_some_iff.1 hk).1; have := h1.1; omega
  obtain ⟨⟨ug, un, uc, hu⟩, h3⟩ := h2 k vs[k] xs (List.getElem?_eq_getElem hl) hk
  rcases h1.2 with ⟨e, h0⟩ | ⟨g, cap', cur, e, _⟩
  · have := (List.getElem?_eq_some_iff.1 hk).1
    omega
  · cases e
    have add : ∀ i, (⟨g, 0, none⟩ : Addr).add i = ⟨g, i, none⟩ := by intro i; unfold Addr.add; split <;> simp_all
    have c := h1.cells (g := g) rfl k vs[k] (List.getElem?_eq_getElem hl)
    rw [add, hu] at c
    rw [hu] at h3
    exact ⟨g, ug, un, uc, rfl, c, h3⟩
set_option maxRecDepth 100000 in
set_option maxHeartbeats 1000000 in
theorem keys_walk (W : World) (dv : Value) (X Y : List (List ByteArray)) (hX : X.length ≤ 4194304) (hY : Y.length ≤ 4194304) (hl : X.flatten.length + Y.flatten.length ≤ 8000000000000)
    (mT : Calls Try.prog 11 #[dv] W fun e w' => (∃ v1 v2, e = .returned (.tuple #[v1, v2]) ∧ Rr W.heap.size w' v1 X ∧ Rr W.heap.size w' v2 Y) ∧ Below W.heap.size W w') :
    Calls Try.prog 18 #[dv] W fun e w' => (∃ v, e = .returned v ∧ Ks W.heap.size w' v (X.flatten ++ Y.flatten)) ∧ Below W.heap.size W w' := by
  go_enter Try.func18, Try.ntmps18
  go_wp2_with fail
  refine mT.mono ?_
  rintro _ w' ⟨⟨v1, v2, rfl, h1, h2⟩, hb⟩
  clear mT
  obtain ⟨ao, ca, rfl⟩ := h1.form
  obtain ⟨bo, cb, rfl⟩ := h2.form
  obtain ⟨A, hA⟩ : ∃ x, X.length = x := ⟨_, rfl⟩
  obtain ⟨C, hC⟩ : ∃ x, Y.length = x := ⟨_, rfl⟩
  rw [hA] at hX h1 ⊢
  rw [hC] at hY h2 ⊢
  have HA := keep hA
  have HC := keep hC
  have H1 := keep h1
  have H2 := keep h2
  have HB := keep hb
  have HL := keep hl
  clear hA hC h1 h2 hb hl
  go_wp2
  go_loopw [5, 6] (fun u i wr => ∃ k : Nat, k ≤ A ∧ i = .int .i64 k ∧ Kept (Ks w'.heap.size wr u (X.take k).flatten) ∧ Kept (Below w'.heap.size w' wr)) (fun _ i _ => A - (intOf i).toNat)
  case atStart => exact ⟨0, Nat.zero_le _, rfl, ks_nil _ _, Below.refl _ _⟩
  case round =>
    obtain ⟨k, hk, rfl, KR, KB⟩ := hrel
    by_cases hlt : k < A
    · have hz : (k : Int) < (A : Int) := by omega
      have hz0 : (0 : Int) ≤ (k : Int) := by omega
      obtain ⟨ys, hys⟩ : ∃ c, X[k]? = some c := ⟨_, List.getElem?_eq_getElem (by rw [HA.out]; exact hlt)⟩
      obtain ⟨g, ug, un, uc, rfl, c0, hks⟩ := (H1.out.kept KB.out).at hys
      have hf := flat_succ hys
      have hle := flat_le X (k + 1)
      rw [hf, List.length_append] at hle
      obtain ⟨v', wn, r1, r2, r3, _⟩ := app_all w'.heap.size wr _ _ _ ys _ KR.out hks KB.out.size (by have := HL.out; omega)
      rw [← hf] at r2
      have R1 := keep r1
      have R2 := keep r2
      have R3 := keep (KB.out.trans r3)
      clear r1 r2 r3 hks hf hle hys KR KB
      go_wp2_with (at_builtin; refine wpList_app_run rfl _ _ _ rfl _ _ _ rfl rfl R1.out ?_)
      go_roundw
      case measure => simp [intOf]; omega
      case rel => exact ⟨k + 1, by omega, by go_num, R2, R3⟩
    · have hz : ¬ (k : Int) < (A : Int) := by omega
      have he : X.take k = X := List.take_of_length_le (by rw [HA.out]; omega)
      rw [he] at KR
      clear he
      obtain ⟨wo, hwo⟩ : ∃ x, x = wr := ⟨_, rfl⟩
      subst hwo
      go_wp2
      go_loopw [5, 7] (fun u i wq => ∃ j : Nat, j ≤ C ∧ i = .int .i64 j ∧ Kept (Ks w'.heap.size wq u (X.flatten ++ (Y.take j).flatten)) ∧ Kept (Below w'.heap.size w' wq)) (fun _ i _ => C - (intOf i).toNat)
      case atStart => exact ⟨0, Nat.zero_le _, rfl, by show Ks _ _ _ _; rw [List.take_zero, List.flatten_nil, List.append_nil]; exact KR.out, KB⟩
      case round =>
        clear KR KB
        obtain ⟨j, hj, rfl, JR, JB⟩ := hrel
        by_cases hltj : j < C
        · have hzj : (j : Int) < (C : Int) := by omega
          have hz0 : (0 : Int) ≤ (j : Int) := by omega
          obtain ⟨ys, hys⟩ : ∃ c, Y[j]? = some c := ⟨_, List.getElem?_eq_getElem (by rw [HC.out]; exact hltj)⟩
          obtain ⟨g, ug, un, uc, rfl, c0, hks⟩ := (H2.out.kept JB.out).at hys
          have hf := flat_succ hys
          have hle := flat_le Y (j + 1)
          rw [hf, List.length_append] at hle
          obtain ⟨v', wn, r1, r2, r3, _⟩ := app_all w'.heap.size wr _ _ _ ys _ JR.out hks JB.out.size (by have := HL.out; rw [List.length_append]; omega)
          rw [List.append_assoc, ← hf] at r2
          have R1 := keep r1
          have R2 := keep r2
          have R3 := keep (JB.out.trans r3)
          clear r1 r2 r3 hks hf hle hys JR JB
          go_wp2_with (at_builtin; refine wpList_app_run rfl _ _ _ rfl _ _ _ rfl rfl R1.out ?_)
          go_roundw
          case measure => simp [intOf]; omega
          case rel => exact ⟨j + 1, by omega, by go_num, R2, R3⟩
        · have hzj : ¬ (j : Int) < (C : Int) := by omega
          have he : Y.take j = Y := List.take_of_length_le (by rw [HC.out]; omega)
          rw [he] at JR
          clear he
          go_wp2
          go_ret
          exact ⟨⟨_, rfl, own_mono JR.out HB.out.size⟩, HB.out.trans (JB.out.mono HB.out.size)⟩
theorem keys_any {h : ByteArray → Nat} (W : World) (r : Roles) (b seed N : Nat) (s : Sd) (hd : Dd h N W r b seed s) (hN : N ≤ 2097150) :
    Calls Try.prog 18 #[.pointer (some ⟨b, 0, none⟩)] W fun e w' => (∃ v, e = .returned v ∧ Ks W.heap.size w' v (Dc.keys (Dc.all s))) ∧ Below W.heap.size W w' := by
  obtain ⟨hI, _, o1, o2, o3⟩ := hd.2
  have hF := few_of hd.2 (by omega)
  have e : (s.old.map Dc.keys).flatten ++ (s.young.map Dc.keys).flatten = Dc.keys (Dc.all s) := by rw [flat_keys, flat_keys, Dc.all_eq hI, Rv.keys_app]
  have el := congrArg List.length e
  rw [List.length_append] at el
  have M := keys_walk W _ (s.old.map Dc.keys) (s.young.map Dc.keys) (by rw [List.length_map]; omega) (by rw [List.length_map]; omega) (by
    rw [el]; unfold Dc.keys; rw [List.length_map]; omega) (tabs_any W r b seed _ s hd.1 hF (by omega) (by omega))
  rw [e] at M
  exact M
end Go.Proofs.Ytnkladifalnmnaa
