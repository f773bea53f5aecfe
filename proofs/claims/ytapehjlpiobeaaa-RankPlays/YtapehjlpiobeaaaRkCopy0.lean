/-
  What the program's memory holds while ranks are copied: one row more behind the rows; one member more in the dict.
-/
import Derived.Test.YtapehjlpiobeaaaRkSame
namespace Go.Proofs.Ytapehjlpiobeaaa
open Go.RowKit Go.Shelf
set_option linter.unusedVariables false
set_option linter.unusedSimpArgs false
theorem lay_app {w W2 : World} {R : Nat} {u0 u1 u3 rv : Value} {T : List Rw} {x : Rw} {vb : Nat} (hL : Lay w R u0 u1 u3 rv T) (hb : Below w.heap.size w W2) (hx : Row W2 x) (hxn : w.heap.size ≤ x.1) (hv : W2.heap[vb]? = some (.cells #[rwV x] 41 (0, 0))) (hn : T.length ≤ 2000000) :
    ∃ ao n c W3, (Builtin.append_ #[61, 61] 61 #[rv, .slice (some ⟨vb, 0, none⟩) 1 1]).run Try.prog W2 = .ok (.slice ao n c) W3 ∧ W3.heap[R]? = w.heap[R]? ∧ Lay (W3.setCell ⟨R, 2, none⟩ (.slice ao n c)) R u0 u1 u3 (.slice ao n c) (T ++ [x]) ∧ Fm (R :: bl rv T) w (R :: bl (.slice ao n c) (T ++ [x])) (W3.setCell ⟨R, 2, none⟩ (.slice ao n c)) ∧ (∀ k, k < W2.heap.size → w.heap.size ≤ k → W3.heap[k]? = W2.heap[k]?) ∧ W2.heap.size ≤ W3.heap.size := by
  obtain ⟨i0, hi0, hz0, hz1, hz2⟩ := info_parts info_rw
  have uT := Try.underlying61
  have hL2 := hL.below hb
  obtain ⟨v', W3, r1, r2, r3, r4, r5⟩ := run_append_own_at (P := Try.prog) W2 0 61 61 41 i0 _ 1 24 uT hi0 hz0 hz1 hz2 (by simp [Value.cells]) (by decide) rv T.length (T.map rwV) hL2.2.1.1 ⟨vb, 0, none⟩ 1 1 [rwV x] rfl (fun j u hj => by
    cases j with
    | zero => cases hj; rw [add_at, cell_of_row _ _ _ _ _ _ hv]; rfl
    | succ j => simp at hj) (fun u hu => by simp at hu; subst hu; rfl) (by unfold maxLen; omega) (by omega) (Nat.zero_le _)
  have hbl : ∀ k, rv.ownBlock = some k → k < w.heap.size := fun k hk => hL.lt k (by unfold bl; simp [hk])
  have hRl : R < w.heap.size := hL.lt R (by simp)
  have hRn : ∀ k, rv.ownBlock = some k → k ≠ R := fun k hk e => hL.2.2 (by unfold bl; simp [← e, hk])
  have hxl : x.1 < W2.heap.size := hx.lt
  have hTl : ∀ y ∈ T, y.1 < w.heap.size := fun y hy => hL.lt y.1 (by unfold bl; simp; exact .inr (.inr ⟨y.2.1, y.2.2, hy⟩))
  have hTrv : ∀ y ∈ T, rv.ownBlock ≠ some y.1 := fun y hy e => by
    have hnd := hL.2.1.2.2
    unfold bl at hnd
    rw [List.nodup_append] at hnd
    exact hnd.2.2 y.1 (by simp [e]) y.1 (List.mem_map.2 ⟨y, hy, rfl⟩) rfl
  have hkeep : ∀ k, k < w.heap.size → rv.ownBlock ≠ some k → W3.heap[k]? = w.heap[k]? := fun k hk hne => by
    rw [r3.block k (by have := hb.size; omega) (fun e => hne e.symm)]; exact hb.block k hk
  have hnew : ∀ k, k < W2.heap.size → w.heap.size ≤ k → W3.heap[k]? = W2.heap[k]? := fun k hk hk2 => r3.block k hk (fun e => by have := hbl k e.symm; omega)
  have hform : ∃ ao n c, v' = .slice ao n c := by
    rcases r2.2 with ⟨e, _⟩ | ⟨g, c, cur, e, _⟩
    · exact ⟨_, _, _, e⟩
    · exact ⟨_, _, _, e⟩
  obtain ⟨ao, n, c, rfl⟩ := hform
  have hrws : Rws W3 (.slice ao n c) (T ++ [x]) := by
    refine ⟨?_, fun y hy => ?_, ?_⟩
    · rw [List.length_append, List.map_append]; exact r2
    · rcases List.mem_append.1 hy with hy | hy
      · exact (hL.2.1.2.1 y hy).kept (hkeep y.1 (hTl y hy) (hTrv y hy))
      · rw [List.mem_singleton] at hy; subst hy; exact hx.kept (hnew _ hxl hxn)
    · unfold bl
      have hnd := hL.2.1.2.2
      unfold bl at hnd
      rw [List.map_append, ← List.append_assoc, List.nodup_append]
      refine ⟨?_, by simp, fun a ha b hb' => ?_⟩
      · rcases r5 with e | e
        · rw [e]; exact hnd
        · rw [e]
          rw [List.nodup_append] at hnd ⊢
          refine ⟨by simp, hnd.2.1, fun a ha b hb' e' => ?_⟩
          obtain ⟨y, hy, rfl⟩ := List.mem_map.1 hb'
          have := hTl y hy
          simp at ha
          have := hb.size
          omega
      · simp at hb'
        subst hb'
        intro e'
        rcases List.mem_append.1 ha with ha | ha
        · rcases r5 with e | e
          · rw [e] at ha
            have := hbl a (by simpa using ha)
            omega
          · rw [e] at ha
            simp at ha
            omega
        · obtain ⟨y, hy, rfl⟩ := List.mem_map.1 ha
          have := hTl y hy
          omega
  have hR3 : W3.heap[R]? = w.heap[R]? := hkeep R hRl (fun e => hRn R e rfl)
  have hmem : ∀ k, k < w.heap.size → k ∈ bl (.slice ao n c) (T ++ [x]) → k ∈ bl rv T := fun k hk hk' => by
    unfold bl at hk' ⊢
    rw [List.map_append, ← List.append_assoc] at hk'
    rcases List.mem_append.1 hk' with h | h
    · rcases List.mem_append.1 h with h | h
      · rcases r5 with e | e
        · rw [e] at h; exact List.mem_append.2 (.inl h)
        · rw [e] at h; simp at h; have := hb.size; omega
      · exact List.mem_append.2 (.inr h)
    · simp at h; omega
  obtain ⟨p1, p2⟩ := hL.put hR3 hrws (fun h => hL.2.2 (hmem R hRl h)) ⟨r3.os.trans hb.os, r3.tape.trans hb.tape, r3.output.trans hb.output⟩ (Nat.le_trans hb.size r3.size) (fun k hk hkm => by
    simp only [List.mem_cons, not_or] at hkm
    exact ⟨hkeep k hk (fun e => hkm.2 (by unfold bl; simp [e])), fun h => hkm.2 (hmem k hk h)⟩)
  exact ⟨ao, n, c, W3, r1, hR3, p1, p2, hnew, r3.size⟩
/-- ranks that are being made: their rows so far, the members in their dict so far -/
structure Cp (h : ByteArray → Nat) (w0 w : World) (R b seed : Nat) (rv : Value) (T : List Rw) (r : Roles) (s : Sf) (A : List Ent) : Prop where
  dd : Dd h 1048576 w r b seed s
  free : ∀ k ∈ R :: bl rv T, r k = (0, 0)
  lay : Lay w R (.int .u64 seed) (.pointer (some ⟨b, 0, none⟩)) (.int .i64 0) rv T
  all : (Dc.all s).Perm A
  bel : Below w0.heap.size w0 w
  new : ∀ k, rq r (R :: bl rv T) k → w0.heap.size ≤ k
theorem Cp.below {h : ByteArray → Nat} {w0 w w' : World} {R b seed : Nat} {rv : Value} {T : List Rw} {r : Roles} {s : Sf} {A : List Ent} (c : Cp h w0 w R b seed rv T r s A) (hb : Below w.heap.size w w') : Cp h w0 w' R b seed rv T r s A :=
  ⟨c.dd.below hb, c.free, c.lay.below hb, c.all, Below.up c.bel hb, c.new⟩
/-- one member more in the dict -/
theorem Cp.set {h : ByteArray → Nat} {w0 w w' : World} {R b seed : Nat} {rv : Value} {T : List Rw} {r r' : Roles} {s : Sf} {A : List Ent} {key : ByteArray} {x : Nat} (c : Cp h w0 w R b seed rv T r s A) (hk : key.size ≤ maxLen) (hno : ∀ e ∈ A, e.1 ≠ key) (hA : A.length < 1048576)
    (hd : Dd h (1048576 + 1) w' r' b seed (Dc.set h s key x).1) (hf : Fr w r w' r') : Cp h w0 w' R b seed rv T r' (Dc.set h s key x).1 (A ++ [(key, x)]) := by
  have hI := c.dd.2.1
  have hkn : (Dc.keys (Dc.all s)).Nodup := all_nodup hI
  have hkA : (Dc.keys A).Nodup := ((Dc.keys_perm c.all).nodup_iff).1 hkn
  have hlook : Dc.look key (Dc.all s) = none := by
    cases hl : Dc.look key (Dc.all s) with
    | none => rfl
    | some y => exact absurd rfl (hno (key, y) (c.all.mem_iff.1 ((Dc.look_mem hkn key y).1 hl)))
  have ok := okd_set_le c.dd.2 hk x (fun _ => by rw [c.all.length_eq]; exact hA)
  obtain ⟨q1, q2, q3, q4⟩ := Dc.set_inv hI key x
  obtain ⟨t1, t2, t3⟩ := rk_dict hf c.free c.lay.lt
  obtain ⟨u1, u2⟩ := FO.bel t1 c.new c.bel.size
  have hp : (Dc.all (Dc.set h s key x).1).Perm (A ++ [(key, x)]) := by
    refine perm_mem (all_nodup q1) ?_ (fun e => ?_)
    · unfold Dc.keys
      rw [List.map_append, List.nodup_append]
      refine ⟨hkA, by simp, fun a ha b' hb' => ?_⟩
      simp at hb'
      subst hb'
      obtain ⟨e, he, rfl⟩ := List.mem_map.1 ha
      exact hno e he
    · rw [← Dc.look_mem (all_nodup q1) e.1 e.2, q3, List.mem_append, List.mem_singleton]
      by_cases he : e.1 = key
      · rw [if_pos he]
        constructor
        · intro hx; right; exact Prod.ext he (Option.some.inj hx).symm
        · rintro (hh | rfl)
          · exact absurd he (hno e hh)
          · rfl
      · rw [if_neg he, Dc.look_mem hkn]
        constructor
        · intro hh; exact .inl (c.all.mem_iff.1 hh)
        · rintro (hh | rfl)
          · exact c.all.mem_iff.2 hh
          · exact absurd rfl he
  exact ⟨⟨hd.1, ok⟩, t2, c.lay.kept t3, hp, c.bel.trans u1, u2⟩
/-- one row more -/
theorem Cp.row {h : ByteArray → Nat} {w0 w w' : World} {R b seed : Nat} {rv rv' : Value} {T T' : List Rw} {r : Roles} {s : Sf} {A : List Ent} (c : Cp h w0 w R b seed rv T r s A) (hl : Lay w' R (.int .u64 seed) (.pointer (some ⟨b, 0, none⟩)) (.int .i64 0) rv' T') (hf : Fm (R :: bl rv T) w (R :: bl rv' T') w') : Cp h w0 w' R b seed rv' T' r s A := by
  obtain ⟨t1, t2, t3⟩ := rk_rows c.dd hf c.free
  obtain ⟨u1, u2⟩ := FO.bel t1 c.new c.bel.size
  exact ⟨t3, t2, hl, c.all, c.bel.trans u1, u2⟩
end Go.Proofs.Ytapehjlpiobeaaa
