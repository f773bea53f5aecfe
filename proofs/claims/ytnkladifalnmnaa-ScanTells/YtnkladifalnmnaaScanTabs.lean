/-
  Contracts over this program: the statements' own tables (rows of rows of texts) and keys.
-/
import Derived.Test.YtnkladifalnmnaaScanAmong
namespace Go.Proofs.Ytnkladifalnmnaa
open Go.RowKit Go.Shelf
attribute [local go_sem] Oper.semAt_some
theorem info_rowK : (Try.prog.info? 36).map (fun i => (i.zero, i.size, i.bytes)) = some (some (.slice none 0 0), 1, 24) := by kernel_rfl
/-- append of any slice of texts -/
theorem app_all (B : Nat) (w : World) (v v2 : Value) (xs ys : List ByteArray) (B2 : Nat) (h1 : Ks B w v xs) (h2 : Ks B2 w v2 ys) (hb : B ≤ w.heap.size) (hl : xs.length + ys.length ≤ 8000000000000) :
    ∃ v' w', (Builtin.append_ #[36, 36] 36 #[v, v2]).run Try.prog w = .ok v' w' ∧ Ks B w' v' (xs ++ ys) ∧ Below B w w' ∧ w.grownBy w' v.ownBlock := by
  obtain ⟨i0, hi0, hz0, hz1, hz2⟩ := info_parts info_strK
  have h2' := h2
  unfold Ks at h2'
  rcases h2'.2 with ⟨rfl, h0⟩ | ⟨g', cap', cur, rfl, _⟩
  · have e : ys = [] := List.length_eq_zero_iff.1 h0
    subst e
    rw [List.append_nil]
    unfold Ks at h1
    exact ⟨v, w, run_append_owned_none (P := Try.prog) (w := w) B _ _ 9 i0 1 Try.underlying36 hi0 _ xs.length _ h1, h1, Below.refl _ _, ⟨rfl, rfl, rfl, Nat.le_refl _, fun _ _ _ => rfl⟩⟩
  · exact app_any B w v _ xs ys B2 h1 h2 ⟨_, _, _, rfl⟩ hb hl
theorem own_apart {w : World} {B1 B2 e1 e2 s1 s2 n1 n2 : Nat} {v u : Value} {xs ys : List Value} (h1 : w.ownsRow B1 e1 s1 v n1 xs) (h2 : w.ownsRow B2 e2 s2 u n2 ys) (hne : e1 ≠ e2) {k : Nat} (hk : v.ownBlock = some k) : u.ownBlock ≠ some k := by
  intro hu
  rcases h1.2 with ⟨rfl, _⟩ | ⟨g, cap, cur, rfl, _, hg, _⟩
  · cases hk
  · rcases h2.2 with ⟨rfl, _⟩ | ⟨g2, cap2, cur2, rfl, _, hg2, _⟩
    · cases hu
    · cases hk
      cases hu
      rw [hg] at hg2
      cases hg2
      exact hne rfl
theorem own_mono {w : World} {B B' e s n : Nat} {v : Value} {xs : List Value} (h : w.ownsRow B e s v n xs) (hb : B' ≤ B) : w.ownsRow B' e s v n xs := by
  refine ⟨h.1, ?_⟩
  rcases h.2 with h | ⟨g, cap, cur, e1, e2, e3⟩
  · exact .inl h
  · exact .inr ⟨g, cap, cur, e1, Nat.le_trans hb e2, e3⟩
/-- rows of texts, each in blocks of its own from B on -/
def Rr (B : Nat) (w : World) (v : Value) (xss : List (List ByteArray)) : Prop :=
  ∃ vs : List Value, w.ownsRow B 36 1 v xss.length vs ∧ (∀ (i : Nat) (u : Value) (xs : List ByteArray), vs[i]? = some u → xss[i]? = some xs → There u ∧ Ks B w u xs)
theorem rr_nil (B : Nat) (w : World) : Rr B w (.slice none 0 0) [] := ⟨[], World.ownsRow_nil _ _ _ _, fun i u xs h => by simp at h⟩
theorem Rr.kept {B : Nat} {w w' : World} {v : Value} {xss : List (List ByteArray)} (h : Rr B w v xss) (hb : Below w.heap.size w w') : Rr B w' v xss := by
  obtain ⟨vs, h1, h2⟩ := h
  exact ⟨vs, own_kept h1 (fun k hk => hb.block k (own_lt h1 hk)), fun i u xs hu hx => ⟨(h2 i u xs hu hx).1, own_kept (h2 i u xs hu hx).2 (fun k hk => hb.block k (own_lt (h2 i u xs hu hx).2 hk))⟩⟩
theorem Rr.mono {B B' : Nat} {w : World} {v : Value} {xss : List (List ByteArray)} (h : Rr B w v xss) (hb : B' ≤ B) : Rr B' w v xss := by
  obtain ⟨vs, h1, h2⟩ := h
  exact ⟨vs, own_mono h1 hb, fun i u xs hu hx => ⟨(h2 i u xs hu hx).1, own_mono (h2 i u xs hu hx).2 hb⟩⟩
/-- one row more: it lies in a new slice of one, and is laid behind the others -/
theorem rr_app (B : Nat) (w : World) (v u : Value) (xss : List (List ByteArray)) (xs : List ByteArray) (h1 : Rr B w v xss) (h2 : Ks B w u xs) (th : There u) (g : Nat) (hg : w.cell? ⟨g, 0, none⟩ = some u) (hb : B ≤ w.heap.size) (hl : xss.length ≤ 4194304) :
    ∃ v' w', (Builtin.append_ #[33, 33] 33 #[v, .slice (some ⟨g, 0, none⟩) 1 1]).run Try.prog w = .ok v' w' ∧ Rr B w' v' (xss ++ [xs]) ∧ Below B w w' ∧ w.grownBy w' v.ownBlock := by
  obtain ⟨i0, hi0, hz0, hz1, hz2⟩ := info_parts info_rowK
  obtain ⟨vs, q1, q2⟩ := h1
  have add : ∀ i, (⟨g, 0, none⟩ : Addr).add i = ⟨g, i, none⟩ := by intro i; unfold Addr.add; split <;> simp_all
  have one : u.oneCell' = true := by obtain ⟨g', n, cap, rfl⟩ := th; rfl
  obtain ⟨v', w', r1, r2, r3, _⟩ := run_append_own (P := Try.prog) w B 33 33 36 i0 (.slice none 0 0) 1 24 Try.underlying33 hi0 hz0 hz1 hz2 rfl (by decide) v xss.length _ q1 ⟨g, 0, none⟩ 1 1 [u] (by simp) (fun j x hx => by
    cases j with
    | zero => rw [add]; simp at hx; rw [hg, hx]
    | succ j => simp at hx) (fun x hx => by simp at hx; subst hx; exact one) (by unfold maxLen; omega) (by omega) hb
  have hlv : vs.length = xss.length := by have := q1.1; omega
  have keepv : ∀ (x : Value) (ys : List ByteArray), Ks B w x ys → Ks B w' x ys := by
    intro x ys hx
    exact own_kept hx (fun k hk => r3.block k (own_lt hx hk) (fun e => own_apart q1 hx (by decide) e.symm hk))
  refine ⟨v', w', r1, ⟨vs ++ [u], ?_, ?_⟩, (Below.refl B w).grown r3 hb (fun k hk => (q1.lt k hk).1), r3⟩
  · rw [List.length_append]
    exact r2
  · intro i x ys hx hy
    rcases Nat.lt_or_ge i vs.length with hi | hi
    · rw [List.getElem?_append_left hi] at hx
      rw [List.getElem?_append_left (by omega)] at hy
      obtain ⟨t1, t2⟩ := q2 i x ys hx hy
      exact ⟨t1, keepv x ys t2⟩
    · rw [List.getElem?_append_right hi] at hx
      rw [List.getElem?_append_right (by omega)] at hy
      cases hj : i - vs.length with
      | zero =>
        rw [hj] at hx
        rw [← hlv, hj] at hy
        simp at hx hy
        subst hx hy
        exact ⟨th, keepv _ _ h2⟩
      | succ j => rw [hj] at hx; simp at hx
/-- a bucket's keys are laid behind the rows that were -/
theorem rr_round (B : Nat) (w w2 : World) (v u : Value) (xss : List (List ByteArray)) (xs : List ByteArray) (hB : B ≤ w.heap.size) (h1 : Rr B w v xss) (hb : Below w.heap.size w w2) (h2 : Ks w.heap.size w2 u xs) (th : There u) (hl : xss.length ≤ 4194304) :
    ∃ v' w', (Builtin.append_ #[33, 33] 33 #[v, .slice (some ⟨w2.heap.size, 0, none⟩) 1 1]).run Try.prog (w2.alloc (.cells #[u] 36)) = .ok v' w' ∧ Rr B w' v' (xss ++ [xs]) ∧ Below B w w' := by
  have hb3 : Below w2.heap.size w2 (w2.alloc (.cells #[u] 36)) := (Below.refl _ w2).alloc (Nat.le_refl _) _
  have hbt : Below w.heap.size w (w2.alloc (.cells #[u] 36)) := hb.trans (hb3.mono hb.size)
  have c0 : (w2.alloc (.cells #[u] 36)).cell? ⟨w2.heap.size, 0, none⟩ = some u := by rw [cell_of_row _ _ _ _ _ _ (heap_alloc_new _ _)]; rfl
  obtain ⟨v', w', r1, r2, r3, _⟩ := rr_app B _ v u xss xs (h1.kept hbt) (own_mono (own_kept h2 (fun k hk => hb3.block k (own_lt h2 hk))) hB) th w2.heap.size c0 (Nat.le_trans hB hbt.size) hl
  exact ⟨v', w', r1, r2, (hbt.mono hB).trans r3⟩
set_option maxRecDepth 100000 in
set_option maxHeartbeats 1000000 in
theorem tabs_any (W : World) (r : Roles) (b seed n : Nat) (s : Sd) (hD : Dct W r b seed n s) (hF : Few s) (ho : s.old.length ≤ 4194304) (hy : s.young.length ≤ 4194304) :
    Calls Try.prog 11 #[.pointer (some ⟨b, 0, none⟩)] W fun e w' => (∃ v1 v2, e = .returned (.tuple #[v1, v2]) ∧ Rr W.heap.size w' v1 (s.old.map Dc.keys) ∧ Rr W.heap.size w' v2 (s.young.map Dc.keys)) ∧ Below W.heap.size W w' := by
  have mS := sizes_any W r b seed n s hD
  have K0 := keep fun (w : World) (hb : Below W.heap.size W w) (i : Nat) (c : List Ent) (hc : s.old[i]? = some c) => bucket_any w r b seed n s (hD.kept hb.size (fun k hk _ => hb.block k hk)) hF 0 (by omega) i c hc
  have K1 := keep fun (w : World) (hb : Below W.heap.size W w) (i : Nat) (c : List Ent) (hc : s.young[i]? = some c) => bucket_any w r b seed n s (hD.kept hb.size (fun k hk _ => hb.block k hk)) hF 1 (by omega) i c hc
  obtain ⟨A, hA⟩ : ∃ x, s.old.length = x := ⟨_, rfl⟩
  obtain ⟨Y, hY⟩ : ∃ x, s.young.length = x := ⟨_, rfl⟩
  rw [hA, hY] at mS
  rw [hA] at ho
  rw [hY] at hy
  have HA := keep hA
  have HY := keep hY
  clear hA hY hD hF
  go_enter Try.func11, Try.ntmps11
  go_wp2_with fail
  refine mS.mono ?_
  rintro _ w1 ⟨rfl, q1, hw1⟩
  have HB1 : Kept (Below W.heap.size W w1) := by rw [hw1]; exact below_drewN (Below.refl _ _) q1
  clear mS hw1
  go_wp2
  go_loopw [7, 9] (fun u i wr => ∃ k : Nat, k ≤ A ∧ i = .int .i64 k ∧ Kept (Rr W.heap.size wr u ((s.old.take k).map Dc.keys)) ∧ Kept (Below W.heap.size W wr)) (fun _ i _ => A - (intOf i).toNat)
  case atStart => exact ⟨0, Nat.zero_le _, rfl, rr_nil _ _, HB1⟩
  case round =>
    clear HB1
    obtain ⟨k, hk, rfl, KR, KB⟩ := hrel
    by_cases hlt : k < A
    · have hz : (k : Int) < (A : Int) := by omega
      have hz2 : (k : Int) < 4194304 := by omega
      obtain ⟨c, hc⟩ : ∃ c, s.old[k]? = some c := ⟨_, List.getElem?_eq_getElem (by rw [HA.out]; exact hlt)⟩
      have mB := K0.out wr KB.out k c hc
      have HC := keep hc
      clear hc
      go_wp2_with fail
      refine mB.mono ?_
      rintro _ w2 ⟨⟨_, rfl, ⟨ug, un, uc, rfl⟩, hk2⟩, hb2⟩
      obtain ⟨v', w', r1, r2, r3⟩ := rr_round W.heap.size wr w2 _ _ _ _ KB.out.size KR.out hb2 hk2 ⟨ug, un, uc, rfl⟩ (by rw [List.length_map, List.length_take]; omega)
      have R1 := keep r1
      have R2 := keep r2
      have R3 := keep (KB.out.trans r3)
      clear r1 r2 r3 hk2 hb2 mB KR KB
      go_wp2_with (at_builtin; refine wpList_app_run rfl _ _ _ rfl _ _ _ rfl rfl R1.out ?_)
      go_roundw
      case measure => simp [intOf]; omega
      case rel =>
        refine ⟨k + 1, by omega, by go_num, ?_, R3⟩
        have e : (s.old.take (k + 1)).map Dc.keys = (s.old.take k).map Dc.keys ++ [Dc.keys c] := by rw [List.take_add_one, HC.out]; simp
        show Rr _ _ _ _
        rw [e]
        exact R2.out
    · have hz : ¬ (k : Int) < (A : Int) := by omega
      have he : s.old.take k = s.old := List.take_of_length_le (by rw [HA.out]; omega)
      rw [he] at KR
      clear he
      obtain ⟨wo, hwo⟩ : ∃ x, x = wr := ⟨_, rfl⟩
      subst hwo
      go_wp2
      go_loopw [8, 10] (fun u i wq => ∃ j : Nat, j ≤ Y ∧ i = .int .i64 j ∧ Kept (Rr wo.heap.size wq u ((s.young.take j).map Dc.keys)) ∧ Kept (Below wo.heap.size wo wq)) (fun _ i _ => Y - (intOf i).toNat)
      case atStart => exact ⟨0, Nat.zero_le _, rfl, rr_nil _ _, Below.refl _ _⟩
      case round =>
        obtain ⟨j, hj, rfl, JR, JB⟩ := hrel
        by_cases hltj : j < Y
        · have hzj : (j : Int) < (Y : Int) := by omega
          have hz2 : (j : Int) < 4194304 := by omega
          obtain ⟨c, hc⟩ : ∃ c, s.young[j]? = some c := ⟨_, List.getElem?_eq_getElem (by rw [HY.out]; exact hltj)⟩
          have mB := K1.out _ (KB.out.trans (JB.out.mono KB.out.size)) j c hc
          have HC := keep hc
          clear hc
          go_wp2_with fail
          refine mB.mono ?_
          rintro _ w2 ⟨⟨_, rfl, ⟨ug, un, uc, rfl⟩, hk2⟩, hb2⟩
          obtain ⟨v', w', r1, r2, r3⟩ := rr_round wo.heap.size _ w2 _ _ _ _ JB.out.size JR.out hb2 hk2 ⟨ug, un, uc, rfl⟩ (by rw [List.length_map, List.length_take]; omega)
          have R1 := keep r1
          have R2 := keep r2
          have R3 := keep (JB.out.trans r3)
          clear r1 r2 r3 hk2 hb2 mB JR JB
          go_wp2_with (at_builtin; refine wpList_app_run rfl _ _ _ rfl _ _ _ rfl rfl R1.out ?_)
          go_roundw
          case measure => simp [intOf]; omega
          case rel =>
            refine ⟨j + 1, by omega, by go_num, ?_, R3⟩
            have e : (s.young.take (j + 1)).map Dc.keys = (s.young.take j).map Dc.keys ++ [Dc.keys c] := by rw [List.take_add_one, HC.out]; simp
            show Rr _ _ _ _
            rw [e]
            exact R2.out
        · have hzj : ¬ (j : Int) < (Y : Int) := by omega
          have he : s.young.take j = s.young := List.take_of_length_le (by rw [HY.out]; omega)
          rw [he] at JR
          clear he
          go_wp2
          go_ret2
          exact ⟨⟨_, _, rfl, KR.out.kept JB.out, JR.out.mono KB.out.size⟩, KB.out.trans (JB.out.mono KB.out.size)⟩
end Go.Proofs.Ytnkladifalnmnaa
