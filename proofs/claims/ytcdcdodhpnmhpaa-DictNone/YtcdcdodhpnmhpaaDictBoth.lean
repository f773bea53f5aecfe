/-
  The walk of DictLittle: a little in each call, and the moving ends.
-/
import Derived.Test.YtcdcdodhpnmhpaaDictDoes
namespace Go.Proofs.Ytcdcdodhpnmhpaa
open Go.RowKit Go.Shelf
/-- a dict and its list, apart from what lay in W -/
def Both (h : ByteArray → Nat) (N : Nat) (W w : World) (r : Roles) (b seed : Nat) (s : Dc.St ByteArray Int) (lv : Value) (l : List Ent) : Prop :=
  Dd h N w r b seed s ∧ Lst s l ∧ Lie w lv l ∧ (∀ k, lv.ownBlock = some k → r k = (0, 0)) ∧ Below W.heap.size W w ∧ ∀ k, k < W.heap.size → role r lv (7, 0) k = (0, 0)
theorem Both.below {h : ByteArray → Nat} {N : Nat} {W w w' : World} {r : Roles} {b seed : Nat} {s : Dc.St ByteArray Int} {lv : Value} {l : List Ent} (hB : Both h N W w r b seed s lv l) (hb : Below w.heap.size w w') : Both h N W w' r b seed s lv l :=
  ⟨hB.1.below hb, hB.2.1, hB.2.2.1.kept (fun k hk => hb.block k (own_lt hB.2.2.1 hk)), hB.2.2.2.1, hB.2.2.2.2.1.trans (hb.mono hB.2.2.2.2.1.size), hB.2.2.2.2.2⟩
theorem Both.done {h : ByteArray → Nat} {N : Nat} {W w w' : World} {r : Roles} {b seed : Nat} {s : Dc.St ByteArray Int} {lv : Value} {l : List Ent} {o : Stp} {e : Ending} (hB : Both h N W w r b seed s lv l) (hD : Done h N w r b seed s o lv e w') :
    ∃ lv' l' r', e = .returned (.tuple #[lv', .bool true]) ∧ Both h (N + 1) W w' r' b seed (doS h s o) lv' l' := by
  obtain ⟨lv', l', r', h1, h2, h3, h4, h5, h6⟩ := hD
  have hs := hB.2.2.2.2.1.size
  refine ⟨lv', l', r', h1, h2, h3, h4, h5, hB.2.2.2.2.1.trans (h6.below hs hB.2.2.2.2.2), fun k hk => (h6.2.2 k (by omega) (hB.2.2.2.2.2 k hk)).2⟩
theorem both_new {h : ByteArray → Nat} {N : Nat} {W w w' : World} {b seed : Nat} (hb : Below W.heap.size W w) (hb2 : Below w.heap.size w w') (hd : Dd h N w' (fun k => if k = w.heap.size then (5, 0) else (0, 0)) b seed Dc.none0) : Both h N W w' (fun k => if k = w.heap.size then (5, 0) else (0, 0)) b seed Dc.none0 (.slice none 0 0) [] := by
  have hs := hb.size
  refine ⟨hd, lst_none, ⟨rfl, .inl ⟨rfl, rfl⟩⟩, (fun k e => by cases e), hb.trans (hb2.mono hs), fun k hk => ?_⟩
  unfold role
  rw [if_neg (by simp [Value.ownBlock])]
  show (if k = w.heap.size then _ else _) = _
  rw [if_neg (by omega)]
/- a little at a time -/
theorem fit_lt {n L : Nat} (h4 : 4 < L) (h8 : 8 * n ≤ L) : Dc.fit n < L := by
  have := fitF_le2 n 4 n
  unfold Dc.fit
  omega
theorem every_len (f : List Ent → List Ent) (s : Dc.St ByteArray Int) : (Dc.every f s).old.length = s.old.length ∧ (Dc.every f s).young.length = s.young.length ∧ (Dc.every f s).pos = s.pos := by unfold Dc.every; simp
theorem lay_len2 (h : ByteArray → Nat) (s : Dc.St ByteArray Int) (e : Ent) : (Dc.lay h s e).old.length = s.old.length ∧ (Dc.lay h s e).young.length = s.young.length ∧ (Dc.lay h s e).pos = s.pos := by
  unfold Dc.lay
  split
  · exact ⟨Dc.push_len _ _ _, rfl, rfl⟩
  · exact ⟨rfl, Dc.push_len _ _ _, rfl⟩
/-- from a dict that is moving: either the sizes turn, or it goes on a little -/
def Lit (s s' : Dc.St ByteArray Int) : Prop := s'.young.length ≠ s.young.length ∨ (s.pos ≤ s'.pos ∧ s'.pos ≤ s.pos + 11)
theorem lit_of {h : ByteArray → Nat} {s : Dc.St ByteArray Int} (hI : Dc.Inv h s) (hy : s.young ≠ []) (o : Stp) (h3 : o.op ≠ 3) : Lit s (doS h s o) := by
  have hyl : 0 < s.young.length := by cases hs : s.young with | nil => exact absurd hs hy | cons _ _ => simp
  have hst := Dc.step_little hI hy
  have hI1 := (Dc.step_inv hI).1
  unfold doS
  split
  · unfold Dc.set
    split
    · obtain ⟨a, b, c⟩ := every_len (Dc.alter o.key o.v) (Dc.step h s)
      rcases hst with ⟨e1, _, _⟩ | ⟨e1, e2, _, _⟩
      · left; show (Dc.every _ _).young.length ≠ _; rw [b, e1]; simp; omega
      · right; show _ ≤ (Dc.every _ _).pos ∧ (Dc.every _ _).pos ≤ _; rw [c]; omega
    · obtain ⟨a, b, c⟩ := lay_len2 h (Dc.grow (Dc.all (Dc.step h s)).length (Dc.step h s)) (o.key, o.v)
      rcases hst with ⟨e1, e0, e2⟩ | ⟨e1, e2, e3, e4⟩
      · left
        show (Dc.lay _ _ _).young.length ≠ _
        rw [b]
        unfold Dc.grow
        split
        · simp; omega
        · split
          · rw [List.length_replicate, e2]; omega
          · rw [e1]; simp; omega
      · right
        show _ ≤ (Dc.lay _ _ _).pos ∧ (Dc.lay _ _ _).pos ≤ _
        rw [c]
        have hy1 : (Dc.step h s).young ≠ [] := fun e => by rw [e] at e4; simp at e4; omega
        have ho1 : (Dc.step h s).old ≠ [] := fun e => by have := hI1.move hy1; rw [e] at this; simp at this
        unfold Dc.grow
        rw [if_neg (by rw [Dc.empty_iff]; exact ho1), if_neg (by rw [Bool.and_eq_true, Dc.empty_iff]; exact fun hh => hy1 hh.1)]
        omega
  · split
    · rcases hst with ⟨e1, _, _⟩ | ⟨e1, e2, _, _⟩
      · left; rw [e1]; simp; omega
      · right; omega
    · split
      · unfold Dc.delete
        split
        · obtain ⟨a, b, c⟩ := every_len (Dc.without o.key) (Dc.step h s)
          show Lit s (Dc.shrink _ _)
          rcases hst with ⟨e1, e0, e2⟩ | ⟨e1, e2, e3, e4⟩
          · left
            unfold Dc.shrink
            split
            · rename_i hc
              rw [Bool.and_eq_true, Bool.and_eq_true, decide_eq_true_iff, decide_eq_true_iff, a] at hc
              have := fit_lt hc.2.1 hc.2.2
              show (List.replicate _ _).length ≠ _
              rw [List.length_replicate]; omega
            · rw [b, e1]; simp; omega
          · right
            have hy1 : (Dc.every (Dc.without o.key) (Dc.step h s)).young ≠ [] := fun e => by rw [e] at b; simp at b; omega
            unfold Dc.shrink
            rw [if_neg (by rw [Bool.and_eq_true, Dc.empty_iff]; exact fun hh => hy1 hh.1), c]
            omega
        · show Lit s (Dc.step h s)
          rcases hst with ⟨e1, _, _⟩ | ⟨e1, e2, _, _⟩
          · left; rw [e1]; simp; omega
          · right; omega
      · exact .inr ⟨by omega, by omega⟩
theorem still_of {h : ByteArray → Nat} {s : Dc.St ByteArray Int} (hI : Dc.Inv h s) (hy : s.young = []) (o : Stp) : (doS h s o).pos = 0 := by
  have hp := hI.rest hy
  have hst := Dc.step_still h hy
  unfold doS
  split
  · unfold Dc.set
    rw [hst]
    split
    · show (Dc.every _ _).pos = 0; rw [(every_len _ _).2.2]; exact hp
    · show (Dc.lay _ _ _).pos = 0
      rw [(lay_len2 _ _ _).2.2]
      unfold Dc.grow
      split
      · rfl
      · split
        · rfl
        · exact hp
  · split
    · rw [hst]; exact hp
    · split
      · unfold Dc.delete
        rw [hst]
        split
        · show (Dc.shrink _ _).pos = 0
          unfold Dc.shrink
          split
          · rfl
          · rw [(every_len _ _).2.2]; exact hp
        · exact hp
      · split
        · rfl
        · exact hp
theorem same_of {h : ByteArray → Nat} {s : Dc.St ByteArray Int} {o : Stp} (h3 : 3 < o.op) : doS h s o = s := by
  unfold doS
  rw [if_neg (by omega), if_neg (by omega), if_neg (by omega), if_neg (by omega)]
theorem steps_snoc {h : ByteArray → Nat} (n : Nat) : ∀ s : Dc.St ByteArray Int, Dc.steps h (n + 1) s = Dc.step h (Dc.steps h n s) := by
  induction n with
  | zero => intro s; rfl
  | succ n ih => intro s; show Dc.steps h (n + 1) (Dc.step h s) = Dc.step h (Dc.steps h n (Dc.step h s)); exact ih _
/-- as many calls of Get as old has buckets -/
theorem ends_of {h : ByteArray → Nat} {s : Dc.St ByteArray Int} (hI : Dc.Inv h s) : (Dc.steps h s.old.length s).young.length = 0 ∧ (Dc.steps h s.old.length s).pos = 0 ∧ (s.young.length = 0 → (Dc.steps h s.old.length s).old.length = s.old.length) ∧ (0 < s.young.length → (Dc.steps h s.old.length s).old.length = s.young.length) := by
  by_cases hy : s.young = []
  · rw [Dc.steps_still h _ hy]
    exact ⟨by rw [hy]; rfl, hI.rest hy, fun _ => rfl, fun h0 => by rw [hy] at h0; simp at h0⟩
  · have hyl : 0 < s.young.length := by cases hs : s.young with | nil => exact absurd hs hy | cons _ _ => simp
    obtain ⟨a, b, c⟩ := Dc.steps_end s.old.length hI hy (by omega)
    exact ⟨by rw [a]; rfl, b, fun h0 => by omega, fun _ => c⟩
theorem pos_le {h : ByteArray → Nat} {N : Nat} {s : Dc.St ByteArray Int} (hO : Okd h N s) : s.pos ≤ 2 * N + 4 := by
  by_cases hy : s.young = []
  · rw [hO.1.rest hy]; omega
  · have := hO.1.move hy; have := hO.2.2.2.1; omega
end Go.Proofs.Ytcdcdodhpnmhpaa
