/-
  How a row of candidates that came in is read, with its reach; and plain mathematics: of all that were offered those that come soonest are kept.
-/
import Derived.Test.YtgniiojeeobffaaPlRise0
namespace Go.Proofs.Ytgniiojeeobffaa
open Go.ChangeShapes Go.WideShapes Go.ChangeAt Go.RowKit
set_option linter.unusedVariables false
set_option linter.unusedSimpArgs false
set_option maxRecDepth 100000
theorem bytes_cd : Try.prog.bytesOf 32 = 24 := by kernel_rfl
section
variable {H : Type} {enc : TypeId × Value → H} {W : World}
theorem open_cds0 {v : Value} {d : DataW H} {p : List MemPlace} {base : Nat} (o : Value.okWide Try.prog W .any base 43 v)
    (h : DataW.Trod enc Try.prog W 0 (fun _ => true) true 43 v d p) :
    ∃ so cap S, v = .slice so S.length cap ∧ Cds W so S ∧ ((d = .nil ∧ S = []) ∨ ∃ D E, d = .slice D E ∧ D.length = S.length) := by
  obtain ⟨a0, l0, c0, rfl⟩ := okWide_slice Try.underlying43 o
  obtain ⟨fuel, h⟩ := h
  rcases Go.Deep.open_slice Try.underlying43 h with ⟨hcs, hx⟩ | ⟨a, len, cap, m, n, D, Pl, hcs, _, hl, hm, hmm, hx, hel⟩
  · have hcs : [Value.slice a0 l0 c0] = [.slice none 0 0] := hcs
    cases hcs
    cases hx
    exact ⟨none, 0, [], rfl, fun j hj => absurd hj (by simp), .inl ⟨rfl, rfl⟩⟩
  · have hcs : [Value.slice a0 l0 c0] = [.slice (some a) len cap] := hcs
    cases hcs
    simp only [if_true] at hmm
    subst hmm
    have each : ∀ i, ∃ g : Ent, i < l0 → CdAt W (a.add (i * 2)) g := by
      intro i
      by_cases hi : i < l0
      · obtain ⟨cs', h1, h2⟩ := hel i (by omega)
        obtain ⟨g, hc⟩ := open_cd h2
        rw [cells_cd] at h1
        obtain ⟨_, _, hcl⟩ := World.cells?_some h1
        refine ⟨g, fun _ => ⟨?_, ?_⟩⟩
        · have e := hcl 0 (by omega); rw [hc] at e; exact e
        · have e := hcl 1 (by omega); rw [hc] at e; exact e
      · exact ⟨(.empty, 0), fun h => absurd h hi⟩
    obtain ⟨f, hf⟩ := Classical.skolem.1 each
    have hL : ((List.range l0).map f).length = l0 := by simp
    cases hx
    refine ⟨some a, _, (List.range l0).map f, by rw [hL], fun i hi => ?_, .inr ⟨_, _, rfl, by simp⟩⟩
    rw [hL] at hi
    have e : ((List.range l0).map f)[i]'(by rw [hL]; exact hi) = f i := by simp
    rw [e]
    have g0 := hf i hi
    refine ⟨a, rfl, ?_, g0⟩
    have := lt_cell g0.1
    rwa [add_block] at this
theorem open_cdz {v : Value} {d : DataW H} {p : List MemPlace} {ts : List TypeId} {ds : List (DataW H)} {base : Nat} (j : Nat) (o : Value.okWide Try.prog W .any base 43 v)
    (h : DataW.Trod enc Try.prog W 0 (fun _ => true) true 43 v d p) (hsz : (DataW.weightsEach Try.prog ts ds).all (fun x => decide (x ≤ reachBytes)) = true) (hj : ts[j]? = some 43) (hd : ds[j]? = some d) :
    ∃ so cap S, v = .slice so S.length cap ∧ Cds W so S ∧ S.length ≤ 5864062014634 := by
  obtain ⟨so, cap, S, hv, hS, hd'⟩ := open_cds0 o h
  refine ⟨so, cap, S, hv, hS, ?_⟩
  rcases hd' with ⟨_, rfl⟩ | ⟨D, E, rfl, hl⟩
  · simp
  · have hw := sized_slice hsz hj hd Try.underlying43
    rw [bytes_cd] at hw
    simp only [reachBytes] at hw
    omega
end
/-- of each key the first one alone -/
def unS (out : List Ent) (c : Ent) : List Ent := if has c.1 out then out else out ++ [c]
def unL (l : List Ent) : List Ent := l.foldl unS []
theorem has_false {key : ByteArray} {l : List Ent} (h : has key l = false) : ∀ e ∈ l, e.1 ≠ key := fun e he hk => by
  have := has_iff.2 ⟨e, he, hk⟩
  rw [h] at this
  cases this
theorem un_keys : ∀ (l out : List Ent), out.Pairwise (fun a b => a.1 ≠ b.1) → (l.foldl unS out).Pairwise (fun a b => a.1 ≠ b.1)
  | [], out, h => h
  | c :: l, out, h => by
    rw [List.foldl_cons]
    refine un_keys l _ ?_
    unfold unS
    cases hh : has c.1 out with
    | true => exact h
    | false =>
      simp only [Bool.false_eq_true, if_false]
      rw [List.pairwise_append]
      exact ⟨h, by simp, fun a ha b hb => by rw [List.mem_singleton] at hb; subst hb; exact has_false hh a ha⟩
theorem unL_keys (l : List Ent) : (unL l).Pairwise (fun a b => a.1 ≠ b.1) := un_keys l [] List.Pairwise.nil
theorem un_len : ∀ (l out : List Ent), (l.foldl unS out).length ≤ out.length + l.length
  | [], out => by simp
  | c :: l, out => by
    rw [List.foldl_cons]
    have := un_len l (unS out c)
    have h2 : (unS out c).length ≤ out.length + 1 := by unfold unS; split <;> simp
    rw [List.length_cons]; omega
theorem unL_len (l : List Ent) : (unL l).length ≤ l.length := by have := un_len l []; simpa [unL] using this
theorem un_take {l : List Ent} {i : Nat} {c : Ent} (h : l[i]? = some c) : (l.take (i + 1)).foldl unS [] = unS ((l.take i).foldl unS []) c := by
  rw [List.take_add_one, h]
  simp
/-- what is kept of those that were offered -/
def ofL (m : Nat) (l : List Ent) : List Ent := l.foldl (fun acc c => offL m c acc) []
theorem of_take {m : Nat} {l : List Ent} {i : Nat} {c : Ent} (h : l[i]? = some c) : ofL m (l.take (i + 1)) = offL m c (ofL m (l.take i)) := by
  unfold ofL
  rw [List.take_add_one, h]
  simp
/-- R is the soonest of L, D the others -/
structure Soon (m : Nat) (L R : List Ent) (D : List Ent) : Prop where
  perm : L.Perm (R ++ D)
  good : Good R
  len : R.length = min m L.length
  late : ∀ d ∈ D, ∀ x ∈ R, snr x d = true
theorem put_perm (c : Ent) (l : List Ent) : (put c l).Perm (c :: l) := by
  unfold put
  refine List.perm_middle.trans (List.Perm.cons c ?_)
  exact List.filter_append_perm (fun x => snr x c) l
theorem Soon.step {m : Nat} {L R D : List Ent} {c : Ent} (h : Soon m L R D) (hk : ∀ e ∈ L, e.1 ≠ c.1) : ∃ D', Soon m (L ++ [c]) (offL m c R) D' := by
  have hkR : ∀ e ∈ R, e.1 ≠ c.1 := fun e he => hk e (h.perm.mem_iff.2 (by simp [he]))
  have hdel : del c.1 R = R := del_none hkR
  have hq : Good (put c R) := good_put h.good hkR
  have hql := put_length c R
  have hp := put_perm c R
  unfold offL
  rw [hdel]
  have hpp : (L ++ [c]).Perm (put c R ++ D) := by
    refine (List.perm_append_comm).trans ?_
    refine (List.Perm.cons c h.perm).trans ?_
    exact (hp.symm.append_right D)
  have hlen := h.perm.length_eq
  rw [List.length_append] at hlen
  have hl := h.len
  by_cases hfit : (put c R).length ≤ m
  · rw [List.take_of_length_le hfit]
    have hD : D = [] := List.length_eq_zero_iff.1 (by omega)
    exact ⟨D, hpp, hq, by rw [hql, List.length_append, List.length_singleton]; omega, fun d hd => by rw [hD] at hd; cases hd⟩
  · refine ⟨(put c R).drop m ++ D, ?_, good_take hq m, by rw [List.length_take, List.length_append, List.length_singleton]; omega, ?_⟩
    · rw [← List.append_assoc, List.take_append_drop]; exact hpp
    · intro d hd x hx
      have hsplit := hq.1
      rw [← List.take_append_drop m (put c R), List.pairwise_append] at hsplit
      rcases List.mem_append.1 hd with hd1 | hd2
      · exact hsplit.2.2 x hx d hd1
      · rcases mem_put.1 (List.mem_of_mem_take hx) with rfl | hxR
        · have hlast : 0 < ((put x R).drop m).length := by rw [List.length_drop]; omega
          obtain ⟨y, hy⟩ := List.exists_mem_of_length_pos hlast
          have h1 := hsplit.2.2 x hx y hy
          rcases mem_put.1 (List.mem_of_mem_drop hy) with rfl | hyR
          · rw [snr_irr] at h1; cases h1
          · exact snr_trans h1 (h.late d hd2 y hyR)
        · exact h.late d hd2 x hxR
theorem soon_all {m : Nat} {L : List Ent} (hk : L.Pairwise (fun a b => a.1 ≠ b.1)) : ∀ i, i ≤ L.length → ∃ D, Soon m (L.take i) (ofL m (L.take i)) D := by
  intro i
  induction i with
  | zero => intro _; exact ⟨[], by simp [ofL], by simpa [ofL] using good0, by simp [ofL], fun d hd => by cases hd⟩
  | succ i ih =>
    intro hi
    obtain ⟨D, hD⟩ := ih (by omega)
    obtain ⟨c, hc⟩ : ∃ c, L[i]? = some c := ⟨_, List.getElem?_eq_getElem (by omega)⟩
    rw [of_take hc]
    have e : L.take (i + 1) = L.take i ++ [c] := by rw [List.take_add_one, hc]; rfl
    rw [e]
    refine hD.step (fun a ha => ?_)
    have hs := split_at hc
    rw [hs, List.pairwise_append] at hk
    exact hk.2.2 a ha c (by simp)
/-- how many of the first j come sooner -/
def cnt (x : Ent) (L : List Ent) (j : Nat) : Nat := (L.take j).countP (fun d => snr d x)
theorem cnt_zero (x : Ent) (L : List Ent) : cnt x L 0 = 0 := rfl
theorem cnt_succ {x d : Ent} {L : List Ent} {j : Nat} (h : L[j]? = some d) : cnt x L (j + 1) = cnt x L j + (if snr d x = true then 1 else 0) := by
  unfold cnt
  rw [List.take_add_one, h]
  simp [List.countP_append, List.countP_cons]
theorem cnt_le (x : Ent) (L : List Ent) (j : Nat) : cnt x L j ≤ j := by
  unfold cnt
  exact Nat.le_trans List.countP_le_length (List.length_take_le _ _)
theorem Soon.count {m : Nat} {L R D : List Ent} (h : Soon m L R D) {i : Nat} {x : Ent} (hx : R[i]? = some x) : cnt x L L.length = i ∧ fnd x L L.length = true := by
  have hxR : x ∈ R := List.mem_iff_getElem?.2 ⟨i, hx⟩
  refine ⟨?_, fnd_all.2 (h.perm.mem_iff.2 (by simp [hxR]))⟩
  unfold cnt
  rw [List.take_length, h.perm.countP_eq, List.countP_append]
  have hD : D.countP (fun d => snr d x) = 0 := List.countP_eq_zero.2 (fun d hd => by rw [snr_asym (h.late d hd x hxR)]; simp)
  rw [hD]
  have hs := split_at hx
  have hp := h.good.1
  rw [hs, List.pairwise_append, List.pairwise_cons] at hp
  have hi := (List.getElem?_eq_some_iff.1 hx).1
  rw [hs, List.countP_append, List.countP_cons, List.countP_eq_length.2 (fun a ha => hp.2.2 a ha x (by simp)), List.countP_eq_zero.2 (fun a ha => by rw [snr_asym (hp.2.1.1 a ha)]; simp), snr_irr, List.length_take]
  simp; omega
end Go.Proofs.Ytgniiojeeobffaa
