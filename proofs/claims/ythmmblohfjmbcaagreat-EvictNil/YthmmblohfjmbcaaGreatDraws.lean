/-
  Contracts over this program: what draw.Hash and the document's own Hash answer at any seed and text.
-/
import Derived.WalkKit
import Derived.Laws.Bits64
import Derived.Test.YthmmblohfjmbcaaGreatProg
import Derived.OpenShut
import Derived.Outline
import Derived.WalkLawsBesides
/-
  Plain mathematics, with no program in sight: a table that grows and shrinks a few buckets at a time, as chapter 5 says how it lies.
-/
namespace Go.Proofs.YthmmblohfjmbcaaGreat
namespace Dc
variable {K V : Type}
/-- what lies under a key in a row of entries -/
def look [DecidableEq K] (k : K) : List (K × V) → Option V
  | [] => none
  | e :: r => if e.1 = k then some e.2 else look k r
def keys (l : List (K × V)) : List K := l.map Prod.fst
theorem look_mem [DecidableEq K] {l : List (K × V)} (hn : (keys l).Nodup) (k : K) (v : V) : look k l = some v ↔ (k, v) ∈ l := by
  induction l with
  | nil => simp [look]
  | cons e r ih =>
    simp only [keys, List.map_cons, List.nodup_cons] at hn
    simp only [look, List.mem_cons]
    by_cases h : e.1 = k
    · rw [if_pos h]
      constructor
      · intro he; left; cases he; cases e; cases h; rfl
      · rintro (rfl | hm)
        · rfl
        · exact absurd (List.mem_map.2 ⟨(k, v), hm, rfl⟩) (h ▸ hn.1)
    · rw [if_neg h, ih hn.2]
      constructor
      · exact .inr
      · rintro (rfl | hm)
        · exact absurd rfl h
        · exact hm
theorem look_none [DecidableEq K] {l : List (K × V)} (k : K) : look k l = none ↔ k ∉ keys l := by
  induction l with
  | nil => simp [look, keys]
  | cons e r ih =>
    simp only [look, keys, List.map_cons, List.mem_cons, not_or]
    by_cases h : e.1 = k
    · rw [if_pos h]; simp [h]
    · rw [if_neg h, ih]
      exact ⟨fun hh => ⟨fun e' => h e'.symm, hh⟩, fun hh => hh.2⟩
theorem keys_perm {l m : List (K × V)} (h : l.Perm m) : (keys l).Perm (keys m) := h.map _
theorem look_same [DecidableEq K] {l m : List (K × V)} (hl : (keys l).Nodup) (hm : (keys m).Nodup) (h : ∀ v k, (k, v) ∈ l ↔ (k, v) ∈ m) (k : K) : look k l = look k m := by
  cases e : look k l with
  | some v => exact ((look_mem hm k v).2 ((h v k).1 ((look_mem hl k v).1 e))).symm
  | none =>
    cases e' : look k m with
    | none => rfl
    | some v =>
      have := (look_mem hl k v).2 ((h v k).2 ((look_mem hm k v).1 e'))
      rw [e] at this; cases this
theorem look_perm [DecidableEq K] {l m : List (K × V)} (hl : (keys l).Nodup) (h : l.Perm m) (k : K) : look k l = look k m :=
  look_same hl ((keys_perm h).nodup_iff.1 hl) (fun _ _ => h.mem_iff) k
/- tables -/
abbrev Tab (K V : Type) : Type := List (List (K × V))
/-- an entry goes to the head of its bucket's chain -/
def push (h : K → Nat) (t : Tab K V) (e : K × V) : Tab K V := t.modify (h e.1 % t.length) (e :: ·)
/-- a chain goes over, from its first entry on -/
def pour (h : K → Nat) (t : Tab K V) (c : List (K × V)) : Tab K V := c.foldl (push h) t
/-- each entry of the table stands in its bucket -/
def Put (h : K → Nat) (t : Tab K V) : Prop := ∀ i c, t[i]? = some c → ∀ e ∈ c, h e.1 % t.length = i
theorem push_len (h : K → Nat) (t : Tab K V) (e : K × V) : (push h t e).length = t.length := by simp [push]
theorem pour_len (h : K → Nat) (c : List (K × V)) : ∀ t : Tab K V, (pour h t c).length = t.length := by
  induction c with
  | nil => intro t; rfl
  | cons e c ih => intro t; show (pour h (push h t e) c).length = _; rw [ih, push_len]
theorem modify_perm (e : K × V) : ∀ (t : Tab K V) (i : Nat), i < t.length → (t.modify i (e :: ·)).flatten.Perm (e :: t.flatten) := by
  intro t
  induction t with
  | nil => intro i hi; simp at hi
  | cons c t ih =>
    intro i hi
    cases i with
    | zero => simp
    | succ i =>
      simp only [List.modify_succ_cons, List.flatten_cons]
      have := (ih i (by simpa using hi)).append_left c
      exact this.trans (List.perm_middle)
theorem push_perm (h : K → Nat) (t : Tab K V) (e : K × V) (ht : 0 < t.length) : (push h t e).flatten.Perm (e :: t.flatten) := modify_perm e t _ (Nat.mod_lt _ ht)
theorem pour_perm (h : K → Nat) (c : List (K × V)) : ∀ t : Tab K V, 0 < t.length → (pour h t c).flatten.Perm (c ++ t.flatten) := by
  induction c with
  | nil => intro t _; exact List.Perm.refl _
  | cons e c ih =>
    intro t ht
    show (pour h (push h t e) c).flatten.Perm _
    refine (ih _ (by rw [push_len]; exact ht)).trans ?_
    refine ((push_perm h t e ht).append_left c).trans ?_
    exact List.perm_middle
theorem push_put {h : K → Nat} {t : Tab K V} (hp : Put h t) (e : K × V) : Put h (push h t e) := by
  intro i c hc x hx
  rw [push_len]
  unfold push at hc
  rw [List.getElem?_modify] at hc
  cases ht : t[i]? with
  | none => rw [ht] at hc; simp at hc
  | some d =>
    rw [ht] at hc
    simp only [Option.map_eq_map, Option.map_some, Option.some.injEq] at hc
    by_cases hi : h e.1 % t.length = i
    · rw [if_pos hi] at hc
      subst hc
      rcases List.mem_cons.1 hx with rfl | hx
      · exact hi
      · exact hp i d ht x hx
    · rw [if_neg hi] at hc
      have hc : d = c := hc
      subst hc
      exact hp i d ht x hx
theorem pour_put {h : K → Nat} (c : List (K × V)) : ∀ {t : Tab K V}, Put h t → Put h (pour h t c) := by
  induction c with
  | nil => intro t ht; exact ht
  | cons e c ih => intro t ht; exact ih (push_put ht e)
/-- the chain of a key's bucket -/
def chain (h : K → Nat) (t : Tab K V) (k : K) : List (K × V) := (t[h k % t.length]?).getD []
theorem chain_mem {h : K → Nat} {t : Tab K V} (hp : Put h t) (k : K) (v : V) : (k, v) ∈ chain h t k ↔ (k, v) ∈ t.flatten := by
  unfold chain
  constructor
  · intro hm
    cases ht : t[h k % t.length]? with
    | none => rw [ht] at hm; simp at hm
    | some c => rw [ht] at hm; exact List.mem_flatten.2 ⟨c, List.mem_of_getElem? ht, hm⟩
  · intro hm
    obtain ⟨c, hc, hm⟩ := List.mem_flatten.1 hm
    obtain ⟨i, hi⟩ := List.getElem?_of_mem hc
    have := hp i c hi _ hm
    rw [this, hi]; exact hm
/- how it lies -/
structure St (K V : Type) where
  old : Tab K V
  young : Tab K V
  pos : Nat
/-- all entries, in the order in which they are told -/
def all (s : St K V) : List (K × V) := (s.old.drop s.pos).flatten ++ s.young.flatten
/-- is there a bucket, and is it empty? -/
def bare : Option (List (K × V)) → Bool
  | some [] => true
  | _ => false
theorem bare_is {o : Option (List (K × V))} : bare o = true ↔ o = some [] := by
  rcases o with _ | (_ | _) <;> simp [bare]
/-- how many empty buckets are passed -/
def skip : Nat → Tab K V → Nat → Nat
  | 0, _, p => p
  | n + 1, t, p => if bare t[p]? then skip n t (p + 1) else p
/-- the chain at a place goes over, if there is one -/
def carry (h : K → Nat) (s : St K V) : St K V :=
  match s.old[s.pos]? with
  | some (e :: c) => { old := s.old.set s.pos [], young := pour h s.young (e :: c), pos := s.pos + 1 }
  | _ => s
/-- old's end -/
def shift (s : St K V) : St K V := if s.pos = s.old.length then { old := s.young, young := [], pos := 0 } else s
def step (h : K → Nat) (s : St K V) : St K V := if s.young.isEmpty then s else shift (carry h { s with pos := skip 10 s.old s.pos })
/-- a number of buckets -/
def pow4 (n : Nat) : Prop := 4 ≤ n ∧ ∃ a, n = 2 ^ a
def good (n : Nat) : Prop := n = 0 ∨ pow4 n
/-- what is so at all times -/
structure Inv (h : K → Nat) (s : St K V) : Prop where
  put0 : Put h s.old
  put1 : Put h s.young
  nodup : (keys (s.old.flatten ++ s.young.flatten)).Nodup
  gone : ∀ i, i < s.pos → s.old[i]? = some []
  size0 : good s.old.length
  size1 : good s.young.length
  rest : s.young = [] → s.pos = 0
  move : s.young ≠ [] → s.pos < s.old.length
theorem flatten_drop (t : Tab K V) : ∀ n, (∀ i, i < n → t[i]? = some []) → (t.drop n).flatten = t.flatten := by
  induction t with
  | nil => intro n _; simp
  | cons c t ih =>
    intro n hn
    cases n with
    | zero => rfl
    | succ n =>
      have h0 := hn 0 (by omega)
      simp at h0
      subst h0
      rw [List.drop_succ_cons, List.flatten_cons, List.nil_append]
      exact ih n (fun i hi => by have := hn (i + 1) (by omega); simpa using this)
theorem all_eq {h : K → Nat} {s : St K V} (hI : Inv h s) : all s = s.old.flatten ++ s.young.flatten := by
  unfold all
  rw [flatten_drop s.old s.pos hI.gone]
/-- what a key's two chains tell is what the whole tells -/
theorem seek [DecidableEq K] {h : K → Nat} {s : St K V} (hI : Inv h s) (k : K) : ((look k (chain h s.old k)).or (look k (chain h s.young k))) = look k (all s) := by
  rw [all_eq hI]
  have hn := hI.nodup
  have hn' := hn
  simp only [keys, List.map_append] at hn'
  have n0 : (keys s.old.flatten).Nodup := (List.nodup_append.1 hn').1
  have n1 : (keys s.young.flatten).Nodup := (List.nodup_append.1 hn').2.1
  have sub : ∀ (t : Tab K V), (keys t.flatten).Nodup → (keys (chain h t k)).Nodup := by
    intro t ht
    unfold chain
    cases hc : t[h k % t.length]? with
    | none => simp [keys]
    | some c =>
      have hm := List.mem_of_getElem? hc
      have hsl : (keys c).Sublist (keys t.flatten) := (List.sublist_flatten_of_mem hm).map _
      exact hsl.nodup ht
  have m0 : ∀ v, look k (chain h s.old k) = some v ↔ (k, v) ∈ s.old.flatten := fun v => by rw [look_mem (sub _ n0), chain_mem hI.put0]
  have m1 : ∀ v, look k (chain h s.young k) = some v ↔ (k, v) ∈ s.young.flatten := fun v => by rw [look_mem (sub _ n1), chain_mem hI.put1]
  cases e0 : look k (chain h s.old k) with
  | some v =>
    have : look k (s.old.flatten ++ s.young.flatten) = some v := (look_mem hn k v).2 (List.mem_append.2 (.inl ((m0 v).1 e0)))
    rw [this]; rfl
  | none =>
    rw [Option.none_or]
    cases e1 : look k (chain h s.young k) with
    | some v => exact ((look_mem hn k v).2 (List.mem_append.2 (.inr ((m1 v).1 e1)))).symm
    | none =>
      cases e : look k (s.old.flatten ++ s.young.flatten) with
      | none => rfl
      | some v =>
        rcases List.mem_append.1 ((look_mem hn k v).1 e) with hm | hm
        · rw [(m0 v).2 hm] at e0; cases e0
        · rw [(m1 v).2 hm] at e1; cases e1
/- a step -/
theorem skip_le : ∀ (n : Nat) (t : Tab K V) (p : Nat), p ≤ skip n t p ∧ skip n t p ≤ p + n := by
  intro n
  induction n with
  | zero => intro t p; exact ⟨Nat.le_refl _, Nat.le_refl _⟩
  | succ n ih =>
    intro t p
    simp only [skip]
    split
    · have := ih t (p + 1); omega
    · omega
theorem skip_gone : ∀ (n : Nat) (t : Tab K V) (p i : Nat), p ≤ i → i < skip n t p → t[i]? = some [] := by
  intro n
  induction n with
  | zero => intro t p i h1 h2; simp only [skip] at h2; omega
  | succ n ih =>
    intro t p i h1 h2
    simp only [skip] at h2
    split at h2
    · rename_i hb
      rcases Nat.eq_or_lt_of_le h1 with rfl | h3
      · exact bare_is.1 hb
      · exact ih t (p + 1) i h3 h2
    · omega
theorem skip_len (n : Nat) (t : Tab K V) (p : Nat) (hp : p ≤ t.length) : skip n t p ≤ t.length := by
  rcases Nat.lt_or_ge t.length (skip n t p) with h | h
  · have h1 := skip_gone n t p t.length hp h
    rw [List.getElem?_eq_none (Nat.le_refl _)] at h1; cases h1
  · exact h
/-- what is so between a step's begin and its end -/
structure Mid (h : K → Nat) (s : St K V) (l : List (K × V)) : Prop where
  put0 : Put h s.old
  put1 : Put h s.young
  perm : (s.old.flatten ++ s.young.flatten).Perm l
  gone : ∀ i, i < s.pos → s.old[i]? = some []
  size0 : pow4 s.old.length
  size1 : pow4 s.young.length
  le : s.pos ≤ s.old.length
theorem set_flatten (t : Tab K V) : ∀ (i : Nat) (c : List (K × V)), t[i]? = some c → t.flatten.Perm (c ++ (t.set i []).flatten) := by
  induction t with
  | nil => intro i c h; simp at h
  | cons d t ih =>
    intro i c h
    cases i with
    | zero => simp at h; subst h; simp
    | succ i =>
      have h : t[i]? = some c := by simpa using h
      simp only [List.set_cons_succ, List.flatten_cons]
      refine ((ih i c h).append_left d).trans ?_
      rw [← List.append_assoc, ← List.append_assoc]
      exact List.perm_append_comm.append_right _
theorem put_set {h : K → Nat} {t : Tab K V} (hp : Put h t) (i : Nat) (c : List (K × V)) (hc : ∀ e ∈ c, h e.1 % t.length = i) : Put h (t.set i c) := by
  intro j d hd e he
  rw [List.length_set]
  rw [List.getElem?_set] at hd
  by_cases hij : i = j
  · subst hij
    rw [if_pos rfl] at hd
    split at hd
    · cases hd; exact hc e he
    · cases hd
  · rw [if_neg hij] at hd
    exact hp j d hd e he
theorem carry_mid {h : K → Nat} {s : St K V} {l : List (K × V)} (hM : Mid h s l) : Mid h (carry h s) l := by
  unfold carry
  split
  · rename_i e c hc
    have hlt : s.pos < s.old.length := (List.getElem?_eq_some_iff.1 hc).1
    have hy : 0 < s.young.length := by have := hM.size1.1; omega
    refine ⟨put_set hM.put0 _ _ (fun e he => by cases he), pour_put _ hM.put1, ?_, ?_, by simpa using hM.size0, by rw [pour_len]; exact hM.size1, by simp; omega⟩
    · have h1 := pour_perm h (e :: c) s.young hy
      have h2 := set_flatten s.old s.pos _ hc
      refine List.Perm.trans ?_ hM.perm
      refine (h1.append_left _).trans ?_
      rw [← List.append_assoc]
      exact (List.perm_append_comm.trans h2.symm).append_right _
    · intro i hi
      show (s.old.set s.pos [])[i]? = some []
      rw [List.getElem?_set]
      by_cases e : s.pos = i
      · rw [if_pos e, if_pos hlt]
      · rw [if_neg e]; exact hM.gone i (by simp at hi; omega)
  · exact hM
theorem pow4_good {n : Nat} (h : pow4 n) : good n := .inr h
theorem good_pos {n : Nat} (h : good n) (hn : n ≠ 0) : pow4 n := by
  rcases h with h | h
  · exact absurd h hn
  · exact h
theorem shift_inv {h : K → Nat} {s : St K V} {l : List (K × V)} (hM : Mid h s l) (hn : (keys l).Nodup) : Inv h (shift s) ∧ (all (shift s)).Perm l := by
  unfold shift
  by_cases hp : s.pos = s.old.length
  · rw [if_pos hp]
    have hf : s.old.flatten = [] := by
      have := flatten_drop s.old s.pos hM.gone
      rw [← this, hp, List.drop_length]; rfl
    have hperm : s.young.flatten.Perm l := by
      have := hM.perm
      rw [hf, List.nil_append] at this
      exact this
    refine ⟨⟨hM.put1, fun i c hc => by simp at hc, ?_, fun i hi => by simp at hi, pow4_good hM.size1, .inl rfl, fun _ => rfl, fun hne => absurd rfl hne⟩, ?_⟩
    · show (keys (s.young.flatten ++ [].flatten)).Nodup
      rw [List.flatten_nil, List.append_nil]
      exact ((keys_perm hperm).nodup_iff).2 hn
    · show (List.flatten (s.young.drop 0) ++ [].flatten).Perm l
      rw [List.drop_zero, List.flatten_nil, List.append_nil]
      exact hperm
  · rw [if_neg hp]
    have hlt : s.pos < s.old.length := by have := hM.le; omega
    have hy : s.young ≠ [] := by
      intro e
      have := hM.size1.1
      rw [e] at this
      simp at this
    refine ⟨⟨hM.put0, hM.put1, ((keys_perm hM.perm).nodup_iff).2 hn, hM.gone, pow4_good hM.size0, pow4_good hM.size1, fun e => absurd e hy, fun _ => hlt⟩, ?_⟩
    unfold all
    rw [flatten_drop s.old s.pos hM.gone]
    exact hM.perm
/-- behind a step all is as it should be, and the same entries are there -/
theorem step_inv {h : K → Nat} {s : St K V} (hI : Inv h s) : Inv h (step h s) ∧ (all (step h s)).Perm (all s) := by
  unfold step
  cases hy : s.young.isEmpty with
  | true => rw [if_pos rfl]; exact ⟨hI, List.Perm.refl _⟩
  | false =>
    rw [if_neg (by simp)]
    have hne : s.young ≠ [] := by intro e; rw [e] at hy; cases hy
    have hlt := hI.move hne
    have hM : Mid h { s with pos := skip 10 s.old s.pos } (all s) := by
      refine ⟨hI.put0, hI.put1, ?_, ?_, good_pos hI.size0 (fun e => by have e : s.old.length = 0 := e; omega), good_pos hI.size1 (fun e => hne (List.length_eq_zero_iff.1 e)), skip_len _ _ _ (by omega)⟩
      · rw [all_eq hI]
      · intro i hi
        rcases Nat.lt_or_ge i s.pos with h1 | h1
        · exact hI.gone i h1
        · exact skip_gone 10 s.old s.pos i h1 hi
    have hn : (keys (all s)).Nodup := by rw [all_eq hI]; exact hI.nodup
    exact shift_inv (carry_mid hM) hn
/- to set -/
/-- a new key may make room first; n: how many keys there are -/
def grow (n : Nat) (s : St K V) : St K V :=
  if s.old.isEmpty then { old := List.replicate 4 [], young := [], pos := 0 }
  else if s.young.isEmpty && decide (s.old.length ≤ n) then { s with young := List.replicate (2 * s.old.length) [], pos := 0 } else s
def lay (h : K → Nat) (s : St K V) (e : K × V) : St K V := if s.young.isEmpty then { s with old := push h s.old e } else { s with young := push h s.young e }
theorem flat_rep (n : Nat) : (List.replicate n ([] : List (K × V))).flatten = [] := by
  induction n with
  | zero => rfl
  | succ n ih => rw [List.replicate_succ, List.flatten_cons, ih]; rfl
theorem put_rep (h : K → Nat) (n : Nat) : Put h (List.replicate n ([] : List (K × V))) := by
  intro i c hc e he
  rw [List.getElem?_replicate] at hc
  split at hc
  · cases hc; cases he
  · cases hc
theorem pow4_four : pow4 4 := ⟨Nat.le_refl _, 2, rfl⟩
theorem pow4_twice {n : Nat} (h : pow4 n) : pow4 (2 * n) := by
  obtain ⟨h1, a, h2⟩ := h
  exact ⟨by omega, a + 1, by rw [h2, Nat.pow_succ]; omega⟩
theorem empty_iff {α : Type} {l : List α} : l.isEmpty = true ↔ l = [] := List.isEmpty_iff
theorem grow_inv {h : K → Nat} {s : St K V} (hI : Inv h s) (n : Nat) : Inv h (grow n s) ∧ all (grow n s) = all s ∧ (grow n s).old ≠ [] := by
  unfold grow
  cases ho : s.old.isEmpty with
  | true =>
    rw [if_pos rfl]
    have hold := empty_iff.1 ho
    have hy : s.young = [] := by
      cases hy : s.young with
      | nil => rfl
      | cons c t =>
        have := hI.move (by rw [hy]; simp)
        rw [hold] at this; simp at this
    refine ⟨⟨put_rep h 4, fun i c hc => by simp at hc, ?_, fun i hi => by simp at hi, .inr ⟨by simp, 2, by simp⟩, .inl rfl, fun _ => rfl, fun hne => absurd rfl hne⟩, ?_, by simp [List.replicate]⟩
    · rw [flat_rep]; simp [keys]
    · unfold all
      rw [hold, hy]
      simp only [List.drop_zero, flat_rep]
      simp
  | false =>
    rw [if_neg (by simp)]
    have hne : s.old ≠ [] := by intro e; rw [e] at ho; cases ho
    cases hc : (s.young.isEmpty && decide (s.old.length ≤ n)) with
    | false => rw [if_neg (by simp)]; exact ⟨hI, rfl, hne⟩
    | true =>
      rw [if_pos rfl]
      rw [Bool.and_eq_true] at hc
      have hy := empty_iff.1 hc.1
      have hp := hI.rest hy
      have hs := good_pos hI.size0 (fun e => hne (List.length_eq_zero_iff.1 e))
      refine ⟨⟨hI.put0, put_rep h _, ?_, fun i hi => by simp at hi, hI.size0, .inr (by rw [List.length_replicate]; exact pow4_twice hs), fun _ => rfl, fun _ => Nat.lt_of_lt_of_le (show 0 < 4 by decide) hs.1⟩, ?_, hne⟩
      · have := hI.nodup
        rw [hy, List.flatten_nil, List.append_nil] at this
        rw [flat_rep, List.append_nil]
        exact this
      · unfold all
        rw [hp, hy]
        simp only [flat_rep, List.flatten_nil]
theorem lay_inv [DecidableEq K] {h : K → Nat} {s : St K V} (hI : Inv h s) (ho : s.old ≠ []) (e : K × V) (he : look e.1 (all s) = none) : Inv h (lay h s e) ∧ (all (lay h s e)).Perm (e :: all s) := by
  have hk : e.1 ∉ keys (all s) := (look_none e.1).1 he
  have hlen : 0 < s.old.length := by
    rcases Nat.eq_zero_or_pos s.old.length with h0 | h0
    · exact absurd (List.length_eq_zero_iff.1 h0) ho
    · exact h0
  have hnd : ∀ l : List (K × V), l.Perm (e :: all s) → (keys l).Nodup := fun l hp => by
    rw [(keys_perm hp).nodup_iff]
    refine List.nodup_cons.2 ⟨hk, ?_⟩
    rw [all_eq hI]; exact hI.nodup
  unfold lay
  cases hy : s.young.isEmpty with
  | true =>
    rw [if_pos rfl]
    have hy' := empty_iff.1 hy
    have hp := hI.rest hy'
    have hP : ((push h s.old e).flatten ++ s.young.flatten).Perm (e :: all s) := by
      rw [all_eq hI]
      exact (push_perm h s.old e hlen).append_right _
    refine ⟨⟨push_put hI.put0 e, hI.put1, hnd _ hP, fun i hi => by rw [hp] at hi; omega, by rw [push_len]; exact hI.size0, hI.size1, fun _ => hp, fun hne => absurd hy' hne⟩, ?_⟩
    unfold all
    show (((push h s.old e).drop s.pos).flatten ++ s.young.flatten).Perm _
    rw [hp, List.drop_zero]
    unfold all at hP
    rw [hp, List.drop_zero] at hP
    exact hP
  | false =>
    rw [if_neg (by simp)]
    have hy' : s.young ≠ [] := by intro e; rw [e] at hy; cases hy
    have hylen : 0 < s.young.length := by
      rcases Nat.eq_zero_or_pos s.young.length with h0 | h0
      · exact absurd (List.length_eq_zero_iff.1 h0) hy'
      · exact h0
    have hP : (s.old.flatten ++ (push h s.young e).flatten).Perm (e :: all s) := by
      rw [all_eq hI]
      exact ((push_perm h s.young e hylen).append_left _).trans List.perm_middle
    have hpy : push h s.young e ≠ [] := by
      intro e0
      have := push_len h s.young e
      rw [e0] at this; simp at this; omega
    refine ⟨⟨hI.put0, push_put hI.put1 e, hnd _ hP, hI.gone, hI.size0, by rw [push_len]; exact hI.size1, fun e0 => absurd e0 hpy, fun _ => hI.move hy'⟩, ?_⟩
    unfold all
    show ((s.old.drop s.pos).flatten ++ (push h s.young e).flatten).Perm _
    rw [flatten_drop s.old s.pos hI.gone]
    unfold all at hP
    rw [flatten_drop s.old s.pos hI.gone] at hP
    exact hP
/-- a chain with the value under a key turned -/
def alter [DecidableEq K] (k : K) (v : V) (l : List (K × V)) : List (K × V) := l.map fun e => if e.1 = k then (e.1, v) else e
/-- a chain without a key -/
def without [DecidableEq K] (k : K) (l : List (K × V)) : List (K × V) := l.filter fun e => decide (e.1 ≠ k)
/-- a change of the key's own chain is one of every chain -/
theorem modify_map {h : K → Nat} {t : Tab K V} (hp : Put h t) (k : K) (f : List (K × V) → List (K × V)) (hf : ∀ c : List (K × V), (∀ e ∈ c, e.1 ≠ k) → f c = c) : t.modify (h k % t.length) f = t.map f := by
  apply List.ext_getElem?
  intro i
  rw [List.getElem?_modify, List.getElem?_map]
  cases ht : t[i]? with
  | none => rfl
  | some c =>
    show some (if h k % t.length = i then f c else c) = some (f c)
    by_cases hi : h k % t.length = i
    · rw [if_pos hi]
    · rw [if_neg hi, hf c]
      intro e he hk
      exact hi (by rw [← hk]; exact hp i c ht e he)
theorem alter_id [DecidableEq K] (k : K) (v : V) (c : List (K × V)) (h : ∀ e ∈ c, e.1 ≠ k) : alter k v c = c := by
  unfold alter
  conv => rhs; rw [← List.map_id c]
  exact List.map_congr_left fun e he => by rw [if_neg (h e he)]; rfl
theorem without_id [DecidableEq K] (k : K) (c : List (K × V)) (h : ∀ e ∈ c, e.1 ≠ k) : without k c = c := by
  unfold without
  exact List.filter_eq_self.2 fun e he => decide_eq_true (h e he)
theorem alter_keys [DecidableEq K] (k : K) (v : V) (c : List (K × V)) : keys (alter k v c) = keys c := by
  unfold keys alter
  rw [List.map_map]
  exact List.map_congr_left fun e _ => by
    show (if e.1 = k then (e.1, v) else e).1 = e.1
    split <;> rfl
theorem look_alter [DecidableEq K] (k : K) (v : V) (l : List (K × V)) (k' : K) : look k' (alter k v l) = if k' = k then (look k' l).map (fun _ => v) else look k' l := by
  induction l with
  | nil => simp [alter, look]
  | cons e r ih =>
    show look k' ((if e.1 = k then (e.1, v) else e) :: alter k v r) = _
    simp only [look]
    rw [ih]
    by_cases h1 : e.1 = k
    · rw [if_pos h1]
      by_cases h2 : k' = k
      · subst h2; simp [h1]
      · rw [if_neg h2, if_neg h2]
        have : ¬ e.1 = k' := fun h => h2 (by rw [← h, h1])
        simp [this]
    · rw [if_neg h1]
      by_cases h2 : k' = k
      · subst h2; simp [h1]
      · rw [if_neg h2, if_neg h2]
theorem look_without [DecidableEq K] (k : K) (l : List (K × V)) (k' : K) : look k' (without k l) = if k' = k then none else look k' l := by
  induction l with
  | nil => simp [without, look]
  | cons e r ih =>
    unfold without at ih ⊢
    rw [List.filter_cons]
    by_cases h1 : e.1 = k
    · rw [if_neg (by simp [h1]), ih]
      by_cases h2 : k' = k
      · rw [if_pos h2, if_pos h2]
      · rw [if_neg h2, if_neg h2]
        simp only [look]
        rw [if_neg (fun h => h2 (by rw [← h, h1]))]
    · rw [if_pos (by simp [h1])]
      simp only [look]
      rw [ih]
      by_cases h2 : k' = k
      · subst h2; simp [h1]
      · rw [if_neg h2, if_neg h2]
theorem look_cons [DecidableEq K] (e : K × V) (l : List (K × V)) (k : K) : look k (e :: l) = if e.1 = k then some e.2 else look k l := rfl
/-- the same done to every chain -/
def every (f : List (K × V) → List (K × V)) (s : St K V) : St K V := { old := s.old.map f, young := s.young.map f, pos := s.pos }
theorem flatten_map (f : List (K × V) → List (K × V)) (hf : ∀ a b, f (a ++ b) = f a ++ f b) (h0 : f [] = []) (t : Tab K V) : (t.map f).flatten = f t.flatten := by
  induction t with
  | nil => exact h0.symm
  | cons c t ih => rw [List.map_cons, List.flatten_cons, List.flatten_cons, ih, hf]
theorem every_inv {h : K → Nat} {s : St K V} (hI : Inv h s) (f : List (K × V) → List (K × V)) (hf : ∀ a b, f (a ++ b) = f a ++ f b) (h0 : f [] = []) (hk : ∀ c, ∀ e ∈ f c, e.1 ∈ keys c) (hn : ∀ l : List (K × V), (keys l).Nodup → (keys (f l)).Nodup) :
    Inv h (every f s) ∧ all (every f s) = f (all s) := by
  have hput : ∀ t : Tab K V, Put h t → Put h (t.map f) := by
    intro t ht i c hc e he
    rw [List.getElem?_map] at hc
    cases hd : t[i]? with
    | none => rw [hd] at hc; cases hc
    | some d =>
      rw [hd] at hc
      have hc : f d = c := Option.some.inj hc
      subst hc
      rw [List.length_map]
      obtain ⟨e', he', hee⟩ := List.mem_map.1 (hk d e he)
      rw [← hee]
      exact ht i d hd e' he'
  refine ⟨⟨hput _ hI.put0, hput _ hI.put1, ?_, ?_, by rw [every, List.length_map]; exact hI.size0, by rw [every, List.length_map]; exact hI.size1, fun e => hI.rest (List.map_eq_nil_iff.1 e), fun hne => ?_⟩, ?_⟩
  · show (keys ((s.old.map f).flatten ++ (s.young.map f).flatten)).Nodup
    rw [flatten_map f hf h0, flatten_map f hf h0, ← hf]
    exact hn _ hI.nodup
  · intro i hi
    show (s.old.map f)[i]? = some []
    rw [List.getElem?_map, hI.gone i hi]
    exact congrArg some h0
  · show s.pos < (s.old.map f).length
    rw [List.length_map]
    exact hI.move (fun e => hne (by show s.young.map f = []; rw [e]; rfl))
  · unfold all every
    show (((s.old.map f).drop s.pos).flatten ++ (s.young.map f).flatten) = _
    rw [← List.map_drop, flatten_map f hf h0, flatten_map f hf h0, ← hf]
theorem alter_inv [DecidableEq K] {h : K → Nat} {s : St K V} (hI : Inv h s) (k : K) (v : V) : Inv h (every (alter k v) s) ∧ all (every (alter k v) s) = alter k v (all s) :=
  every_inv hI _ (fun a b => by unfold alter; rw [List.map_append]) rfl (fun c e he => by rw [← alter_keys k v c]; exact List.mem_map.2 ⟨e, he, rfl⟩) (fun l hl => by rw [alter_keys]; exact hl)
theorem without_inv [DecidableEq K] {h : K → Nat} {s : St K V} (hI : Inv h s) (k : K) : Inv h (every (without k) s) ∧ all (every (without k) s) = without k (all s) :=
  every_inv hI _ (fun a b => by unfold without; rw [List.filter_append]) rfl (fun c e he => List.mem_map.2 ⟨e, (List.mem_filter.1 he).1, rfl⟩) (fun l hl => by
    have hs : (keys (without k l)).Sublist (keys l) := (List.filter_sublist (l := l)).map _
    exact hs.nodup hl)
/- to set -/
def set [DecidableEq K] (h : K → Nat) (s : St K V) (k : K) (v : V) : St K V × Bool :=
  match look k (all (step h s)) with
  | some _ => (every (alter k v) (step h s), false)
  | none => (lay h (grow (all (step h s)).length (step h s)) (k, v), true)
theorem set_inv [DecidableEq K] {h : K → Nat} {s : St K V} (hI : Inv h s) (k : K) (v : V) :
    Inv h (set h s k v).1 ∧ (set h s k v).2 = (look k (all s)).isNone ∧ (∀ k', look k' (all (set h s k v).1) = if k' = k then some v else look k' (all s)) ∧ (all (set h s k v).1).length = (all s).length + (if (look k (all s)).isNone then 1 else 0) := by
  obtain ⟨h1, h2⟩ := step_inv hI
  have hn : (keys (all (step h s))).Nodup := by rw [all_eq h1]; exact h1.nodup
  have hl : ∀ k', look k' (all (step h s)) = look k' (all s) := look_perm hn h2
  have hlen := h2.length_eq
  unfold set
  cases e : look k (all (step h s)) with
  | some x =>
    obtain ⟨a1, a2⟩ := alter_inv h1 k v
    have e' := e
    rw [hl] at e'
    refine ⟨a1, by rw [e']; rfl, fun k' => ?_, ?_⟩
    · show look k' (all (every (alter k v) (step h s))) = _
      rw [a2, look_alter, hl]
      by_cases hk : k' = k
      · rw [if_pos hk, if_pos hk, hk, e']; rfl
      · rw [if_neg hk, if_neg hk]
    · show (all (every (alter k v) (step h s))).length = _
      rw [a2, e']
      unfold alter
      rw [List.length_map, hlen]; rfl
  | none =>
    obtain ⟨g1, g2, g3⟩ := grow_inv h1 (all (step h s)).length
    have e' := e
    rw [hl] at e'
    obtain ⟨l1, l2⟩ := lay_inv g1 g3 (k, v) (by rw [g2]; exact e)
    refine ⟨l1, by rw [e']; rfl, fun k' => ?_, ?_⟩
    · have hn2 : (keys (all (lay h (grow (all (step h s)).length (step h s)) (k, v)))).Nodup := by rw [all_eq l1]; exact l1.nodup
      show look k' (all (lay h (grow (all (step h s)).length (step h s)) (k, v))) = _
      rw [look_perm hn2 l2, look_cons, g2, hl]
      by_cases hk : k' = k
      · rw [if_pos hk.symm, if_pos hk]
      · rw [if_neg (fun h => hk h.symm), if_neg hk]
    · show (all (lay h (grow (all (step h s)).length (step h s)) (k, v))).length = _
      rw [l2.length_eq, e', List.length_cons, g2, hlen]; rfl
/- to delete -/
/-- the least power of two that is not below 4 and not below n, sought from m on -/
def fitF : Nat → Nat → Nat → Nat
  | 0, m, _ => m
  | f + 1, m, n => if m < n then fitF f (2 * m) n else m
def fit (n : Nat) : Nat := fitF n 4 n
theorem fitF_pow (f : Nat) : ∀ m n : Nat, pow4 m → pow4 (fitF f m n) := by
  induction f with
  | zero => intro m n h; exact h
  | succ f ih =>
    intro m n h
    simp only [fitF]
    split
    · exact ih _ _ (pow4_twice h)
    · exact h
theorem fitF_le (f : Nat) : ∀ m n : Nat, 0 < m → n ≤ m + f → n ≤ fitF f m n := by
  induction f with
  | zero => intro m n _ h; exact h
  | succ f ih =>
    intro m n hm h
    simp only [fitF]
    split
    · exact ih (2 * m) n (by omega) (by omega)
    · omega
theorem fit_le (n : Nat) : n ≤ fit n := fitF_le n 4 n (by omega) (by omega)
theorem fit_pow (n : Nat) : pow4 (fit n) := fitF_pow n 4 n pow4_four
/-- behind a key that went; n: how many keys are left -/
def shrink (n : Nat) (s : St K V) : St K V := if s.young.isEmpty && (decide (4 < s.old.length) && decide (8 * n ≤ s.old.length)) then { s with young := List.replicate (fit n) [], pos := 0 } else s
theorem shrink_inv {h : K → Nat} {s : St K V} (hI : Inv h s) (n : Nat) : Inv h (shrink n s) ∧ all (shrink n s) = all s := by
  unfold shrink
  cases hc : (s.young.isEmpty && (decide (4 < s.old.length) && decide (8 * n ≤ s.old.length))) with
  | false => rw [if_neg (by simp)]; exact ⟨hI, rfl⟩
  | true =>
    rw [if_pos rfl]
    rw [Bool.and_eq_true, Bool.and_eq_true, decide_eq_true_iff] at hc
    have hy := empty_iff.1 hc.1
    have hp := hI.rest hy
    refine ⟨⟨hI.put0, put_rep h _, ?_, fun i hi => by simp at hi, hI.size0, .inr (by rw [List.length_replicate]; exact fit_pow n), fun _ => rfl, fun _ => Nat.lt_of_le_of_lt (Nat.zero_le 4) hc.2.1⟩, ?_⟩
    · have := hI.nodup
      rw [hy, List.flatten_nil, List.append_nil] at this
      rw [flat_rep, List.append_nil]
      exact this
    · unfold all
      rw [hp, hy]
      simp only [flat_rep, List.flatten_nil]
def delete [DecidableEq K] (h : K → Nat) (s : St K V) (k : K) : St K V × Bool :=
  match look k (all (step h s)) with
  | some _ => (shrink ((all (step h s)).length - 1) (every (without k) (step h s)), true)
  | none => (step h s, false)
theorem without_len [DecidableEq K] {l : List (K × V)} (hn : (keys l).Nodup) (k : K) : (without k l).length = l.length - (if (look k l).isSome then 1 else 0) := by
  induction l with
  | nil => rfl
  | cons e r ih =>
    simp only [keys, List.map_cons, List.nodup_cons] at hn
    unfold without
    rw [List.filter_cons]
    by_cases h1 : e.1 = k
    · rw [if_neg (by simp [h1])]
      have hr : without k r = r := without_id k r fun x hx hk => hn.1 (by rw [h1, ← hk]; exact List.mem_map.2 ⟨x, hx, rfl⟩)
      unfold without at hr
      rw [hr, look_cons, if_pos h1]; simp
    · rw [if_pos (by simp [h1]), look_cons, if_neg h1, List.length_cons, List.length_cons]
      have := ih hn.2
      unfold without at this
      rw [this]
      cases hs : (look k r).isSome with
      | false => simp
      | true =>
        have hpos : 0 < r.length := by
          cases r with
          | nil => cases hs
          | cons _ _ => simp
        simp; omega
theorem delete_inv [DecidableEq K] {h : K → Nat} {s : St K V} (hI : Inv h s) (k : K) :
    Inv h (delete h s k).1 ∧ (delete h s k).2 = (look k (all s)).isSome ∧ (∀ k', look k' (all (delete h s k).1) = if k' = k then none else look k' (all s)) ∧ (all (delete h s k).1).length = (all s).length - (if (look k (all s)).isSome then 1 else 0) := by
  obtain ⟨h1, h2⟩ := step_inv hI
  have hn : (keys (all (step h s))).Nodup := by rw [all_eq h1]; exact h1.nodup
  have hl : ∀ k', look k' (all (step h s)) = look k' (all s) := look_perm hn h2
  have hlen := h2.length_eq
  unfold delete
  cases e : look k (all (step h s)) with
  | some x =>
    have e' := e
    rw [hl] at e'
    obtain ⟨a1, a2⟩ := without_inv h1 k
    obtain ⟨b1, b2⟩ := shrink_inv a1 ((all (step h s)).length - 1)
    refine ⟨b1, by rw [e']; rfl, fun k' => ?_, ?_⟩
    · show look k' (all (shrink _ (every (without k) (step h s)))) = _
      rw [b2, a2, look_without, hl]
    · show (all (shrink _ (every (without k) (step h s)))).length = _
      rw [b2, a2, without_len hn, hlen, hl]
  | none =>
    have e' := e
    rw [hl] at e'
    refine ⟨h1, by rw [e']; rfl, fun k' => ?_, ?_⟩
    · show look k' (all (step h s)) = _
      rw [hl]
      by_cases hk : k' = k
      · rw [if_pos hk, hk, e']
      · rw [if_neg hk]
    · show (all (step h s)).length = _
      rw [hlen, e']; rfl
/-- none yet -/
def none0 : St K V := { old := [], young := [], pos := 0 }
theorem none0_inv (h : K → Nat) : Inv h (none0 : St K V) :=
  ⟨fun i c hc => by simp [none0] at hc, fun i c hc => by simp [none0] at hc, by simp [none0, keys], fun i hi => by simp [none0] at hi, .inl rfl, .inl rfl, fun _ => rfl, fun hne => absurd rfl hne⟩
/- a little at a time -/
theorem carry_pos (h : K → Nat) (s : St K V) : s.pos ≤ (carry h s).pos ∧ (carry h s).pos ≤ s.pos + 1 ∧ (carry h s).old.length = s.old.length ∧ (carry h s).young.length = s.young.length := by
  unfold carry
  split
  · exact ⟨by simp, by simp, by simp, pour_len h _ _⟩
  · exact ⟨Nat.le_refl _, Nat.le_succ _, rfl, rfl⟩
theorem skip_stop (n : Nat) (t : Tab K V) (p : Nat) (hp : p < t.length) : p < skip (n + 1) t p ∨ ∃ e c, t[skip (n + 1) t p]? = some (e :: c) := by
  simp only [skip]
  split
  · left
    have := (skip_le n t (p + 1)).1
    omega
  · rename_i hb
    right
    cases hc : t[p]? with
    | none => rw [List.getElem?_eq_getElem hp] at hc; cases hc
    | some c =>
      cases c with
      | nil => rw [hc] at hb; exact absurd rfl hb
      | cons e c => exact ⟨e, c, rfl⟩
theorem step_little {h : K → Nat} {s : St K V} (hI : Inv h s) (hm : s.young ≠ []) :
    ((step h s).young = [] ∧ (step h s).pos = 0 ∧ (step h s).old.length = s.young.length) ∨ (s.pos < (step h s).pos ∧ (step h s).pos ≤ s.pos + 11 ∧ (step h s).old.length = s.old.length ∧ (step h s).young.length = s.young.length) := by
  have hlt := hI.move hm
  have hk := skip_le 10 s.old s.pos
  have hc := carry_pos h { s with pos := skip 10 s.old s.pos }
  have hup : s.pos < (carry h { s with pos := skip 10 s.old s.pos }).pos := by
    rcases skip_stop 9 s.old s.pos hlt with h1 | ⟨e, c, h1⟩
    · exact Nat.lt_of_lt_of_le h1 hc.1
    · unfold carry
      show s.pos < (match s.old[skip 10 s.old s.pos]? with | some (e :: c) => _ | _ => _ : St K V).pos
      rw [h1]
      show s.pos < skip 10 s.old s.pos + 1
      omega
  unfold step
  rw [if_neg (by rw [empty_iff]; exact hm)]
  generalize carry h { s with pos := skip 10 s.old s.pos } = s' at hc hup
  unfold shift
  by_cases he : s'.pos = s'.old.length
  · rw [if_pos he]
    exact .inl ⟨rfl, rfl, hc.2.2.2⟩
  · rw [if_neg he]
    exact .inr ⟨hup, by have := hc.2.1; have := hk.2; simp at *; omega, hc.2.2.1, hc.2.2.2⟩
/-- as many steps as old has buckets end the moving -/
def steps (h : K → Nat) : Nat → St K V → St K V
  | 0, s => s
  | n + 1, s => steps h n (step h s)
theorem step_still (h : K → Nat) {s : St K V} (hy : s.young = []) : step h s = s := by
  unfold step
  rw [if_pos (by rw [hy]; rfl)]
theorem steps_still (h : K → Nat) (n : Nat) {s : St K V} (hy : s.young = []) : steps h n s = s := by
  induction n with
  | zero => rfl
  | succ n ih => show steps h n (step h s) = s; rw [step_still h hy]; exact ih
theorem steps_end {h : K → Nat} (n : Nat) : ∀ {s : St K V}, Inv h s → s.young ≠ [] → s.old.length ≤ s.pos + n → (steps h n s).young = [] ∧ (steps h n s).pos = 0 ∧ (steps h n s).old.length = s.young.length := by
  induction n with
  | zero => intro s hI hm hn; have := hI.move hm; omega
  | succ n ih =>
    intro s hI hm hn
    show (steps h n (step h s)).young = [] ∧ _
    rcases step_little hI hm with ⟨h1, h2, h3⟩ | ⟨h1, h2, h3, h4⟩
    · rw [show steps h (n + 1) s = steps h n (step h s) from rfl, steps_still h n h1]
      exact ⟨h1, h2, h3⟩
    · have hy : (step h s).young ≠ [] := by
        intro e
        rw [e] at h4
        exact hm (List.length_eq_zero_iff.1 h4.symm)
      obtain ⟨r1, r2, r3⟩ := ih (step_inv hI).1 hy (by omega)
      exact ⟨r1, r2, by rw [show steps h (n + 1) s = steps h n (step h s) from rfl, r3, h4]⟩
/- who is drawn -/
/-- the buckets that may have keys, in their order -/
def opened (s : St K V) : Tab K V := s.old.drop s.pos ++ s.young
theorem opened_all (s : St K V) : (opened s).flatten = all s := by unfold opened all; rw [List.flatten_append]
def full : Option (List (K × V)) → Bool
  | some (_ :: _) => true
  | _ => false
/-- the first bucket from i on that is not empty, round and round -/
def findF (t : Tab K V) : Nat → Nat → Nat
  | 0, i => i
  | f + 1, i => if full t[i]? then i else findF t f ((i + 1) % t.length)
theorem find_here (t : Tab K V) (f i : Nat) (h : full t[i]? = true) : findF t f i = i := by
  cases f with
  | zero => rfl
  | succ f => simp only [findF]; rw [if_pos h]
theorem find_full (t : Tab K V) (f : Nat) : ∀ (i j : Nat), i < t.length → j < f → full t[(i + j) % t.length]? = true → full t[findF t f i]? = true ∧ findF t f i < t.length := by
  induction f with
  | zero => intro i j _ hj; omega
  | succ f ih =>
    intro i j hi hj hf
    simp only [findF]
    by_cases hc : full t[i]? = true
    · rw [if_pos hc]; exact ⟨hc, hi⟩
    · rw [if_neg hc]
      have hj0 : j ≠ 0 := by
        intro e
        subst e
        rw [Nat.add_zero, Nat.mod_eq_of_lt hi] at hf
        exact hc hf
      refine ih ((i + 1) % t.length) (j - 1) (Nat.mod_lt _ (by omega)) (by omega) ?_
      rw [Nat.mod_add_mod, show i + 1 + (j - 1) = i + j by omega]
      exact hf
theorem full_of_mem {t : Tab K V} {e : K × V} (h : e ∈ t.flatten) : ∃ (i : Nat) (c : List (K × V)) (j : Nat), i < t.length ∧ t[i]? = some c ∧ c[j]? = some e ∧ full t[i]? = true ∧ c.length ≤ t.flatten.length := by
  obtain ⟨c, hc, he⟩ := List.mem_flatten.1 h
  obtain ⟨i, hi⟩ := List.getElem?_of_mem hc
  obtain ⟨j, hj⟩ := List.getElem?_of_mem he
  refine ⟨i, c, j, (List.getElem?_eq_some_iff.1 hi).1, hi, hj, ?_, (List.sublist_flatten_of_mem hc).length_le⟩
  rw [hi]
  cases c with
  | nil => cases he
  | cons _ _ => rfl
theorem find_any {t : Tab K V} (hne : t.flatten ≠ []) {i : Nat} (hi : i < t.length) : full t[findF t t.length i]? = true ∧ findF t t.length i < t.length := by
  cases hf : t.flatten with
  | nil => exact absurd hf hne
  | cons e r =>
    obtain ⟨m, c, j, hm, _, _, hfm, _⟩ := full_of_mem (t := t) (e := e) (by rw [hf]; simp)
    have hpos : 0 < t.length := by omega
    refine find_full t t.length i ((m + t.length - i) % t.length) hi (Nat.mod_lt _ hpos) ?_
    rw [Nat.add_mod_mod, show i + (m + t.length - i) = m + t.length by omega, Nat.add_mod_right, Nat.mod_eq_of_lt hm]
    exact hfm
/-- the entry that is told for a number, where there is one -/
def draw (t : Tab K V) (r : Nat) : Option (K × V) :=
  match t[findF t t.length (r % t.length)]? with
  | some c => c[r / t.length % c.length]?
  | none => none
theorem draw_mem {t : Tab K V} (hne : t.flatten ≠ []) (r : Nat) : ∃ e, draw t r = some e ∧ e ∈ t.flatten := by
  have hpos : 0 < t.length := by
    rcases Nat.eq_zero_or_pos t.length with h | h
    · rw [List.length_eq_zero_iff.1 h] at hne; exact absurd rfl hne
    · exact h
  obtain ⟨h1, h2⟩ := find_any hne (Nat.mod_lt r hpos)
  unfold draw
  cases hc : t[findF t t.length (r % t.length)]? with
  | none => rw [hc] at h1; cases h1
  | some c =>
    rw [hc] at h1
    have hl : 0 < c.length := by
      cases c with
      | nil => cases h1
      | cons _ _ => simp
    have hlt := Nat.mod_lt (r / t.length) hl
    exact ⟨c[r / t.length % c.length], List.getElem?_eq_getElem hlt, List.mem_flatten.2 ⟨c, List.mem_of_getElem? hc, List.getElem_mem hlt⟩⟩
theorem draw_each {t : Tab K V} {e : K × V} (h : e ∈ t.flatten) : ∃ r, r < t.length * t.flatten.length ∧ draw t r = some e := by
  obtain ⟨i, c, j, hi, hc, hj, hf, hl⟩ := full_of_mem h
  have hjl : j < c.length := (List.getElem?_eq_some_iff.1 hj).1
  have hmod : (t.length * j + i) % t.length = i := by rw [Nat.mul_add_mod, Nat.mod_eq_of_lt hi]
  have hdiv : (t.length * j + i) / t.length = j := by rw [Nat.mul_add_div (by omega), Nat.div_eq_of_lt hi, Nat.add_zero]
  refine ⟨t.length * j + i, ?_, ?_⟩
  · have h1 : t.length * (j + 1) ≤ t.length * t.flatten.length := Nat.mul_le_mul_left _ (by omega)
    rw [Nat.mul_add, Nat.mul_one] at h1
    omega
  · unfold draw
    rw [hmod, hdiv, find_here t _ i hf, hc]
    show c[j % c.length]? = some e
    rw [Nat.mod_eq_of_lt hjl]
    exact hj
end Dc
end Go.Proofs.YthmmblohfjmbcaaGreat

/-
  Plain mathematics, with no program in sight: the hash as a fold over bytes, and why unlike things stay unlike.
-/
namespace Go.Proofs.YthmmblohfjmbcaaGreat
/-- a fact kept out of the walk's sight -/
def Kept (p : Prop) : Prop := p
theorem keep {p : Prop} (h : p) : Kept p := h
theorem Kept.out {p : Prop} (h : Kept p) : p := h
namespace Dw
def M : Nat := 18446744073709551616
theorem M_is : M = 18446744073709551616 := rfl
theorem M_pow : M = 2 ^ 64 := by decide +kernel
def P : Nat := 1099511628211
def E : Nat := 11400714819323198485
def B : Nat := 14695981039346656037
def mul (a b : Nat) : Nat := a * b % M
def xr (a b : Nat) : Nat := a ^^^ b
def half (a : Nat) : Nat := a / 4294967296
def part (a : Nat) : Nat := a / 536870912
def step (h : Nat) (c : UInt8) : Nat := mul (xr h c.toNat) P
def mid (h : Nat) : Nat := mul (xr h (half h)) E
def fin (h : Nat) : Nat := xr (mid h) (part (mid h))
def run (h : Nat) (l : List UInt8) : Nat := l.foldl step h
def hsh (seed : Nat) (l : List UInt8) : Nat := fin (run (xr seed B) l)
theorem mul_lt (a b : Nat) : mul a b < M := Nat.mod_lt _ (by rw [M_is]; omega)
theorem xr_lt {a b : Nat} (ha : a < M) (hb : b < M) : xr a b < M := by
  rw [M_pow] at *
  exact Nat.xor_lt_two_pow ha hb
theorem half_lt {a : Nat} (h : a < M) : half a < M := Nat.lt_of_le_of_lt (Nat.div_le_self _ _) h
theorem part_lt {a : Nat} (h : a < M) : part a < M := Nat.lt_of_le_of_lt (Nat.div_le_self _ _) h
theorem byte_lt (c : UInt8) : c.toNat < M := by have := c.toNat_lt; rw [M_is]; omega
theorem B_lt : B < M := by decide +kernel
theorem step_lt (h : Nat) (c : UInt8) : step h c < M := by unfold step; exact mul_lt _ _
theorem run_cons (h : Nat) (c : UInt8) (l : List UInt8) : run h (c :: l) = run (step h c) l := by unfold run; rw [List.foldl_cons]
theorem run_lt (l : List UInt8) : ∀ {h : Nat}, h < M → run h l < M := by
  induction l with
  | nil => intro h hh; exact hh
  | cons c l ih => intro h _; have := ih (step_lt h c); rw [run_cons]; exact this
theorem run_snoc (h : Nat) (l : List UInt8) (c : UInt8) : run h (l ++ [c]) = step (run h l) c := by unfold run; rw [List.foldl_append, List.foldl_cons, List.foldl_nil]
theorem mid_lt (h : Nat) : mid h < M := by unfold mid; exact mul_lt _ _
theorem fin_lt (h : Nat) : fin h < M := by unfold fin; exact xr_lt (mid_lt h) (part_lt (mid_lt h))
theorem hsh_lt (seed : Nat) (l : List UInt8) : hsh seed l < M := by unfold hsh; exact fin_lt _
/- the way back -/
theorem back_mul {p q x : Nat} (hpq : p * q % M = 1) (hx : x < M) : mul (mul x p) q = x := by
  unfold mul
  rw [Nat.mod_mul_mod, Nat.mul_assoc, Nat.mul_mod, hpq, Nat.mul_one, Nat.mod_mod, Nat.mod_eq_of_lt hx]
theorem back_xr (a b : Nat) : xr (xr a b) b = a := by unfold xr; rw [Nat.xor_assoc, Nat.xor_self, Nat.xor_zero]
def qP : Nat := 14886173955864302971
def qE : Nat := 17428512612931826493
theorem hP : P * qP % M = 1 := by decide +kernel
theorem hE : E * qE % M = 1 := by decide +kernel
theorem step_inj {h g : Nat} {c d : UInt8} (hh : h < M) (hg : g < M) (e : step h c = step g d) : xr h c.toNat = xr g d.toNat := by
  unfold step at e
  have e2 : mul (mul (xr h c.toNat) P) qP = mul (mul (xr g d.toNat) P) qP := by rw [e]
  rwa [back_mul hP (xr_lt hh (byte_lt c)), back_mul hP (xr_lt hg (byte_lt d))] at e2
theorem step_inj1 {h g : Nat} {c : UInt8} (hh : h < M) (hg : g < M) (e : step h c = step g c) : h = g := by
  have := congrArg (fun x => xr x c.toNat) (step_inj hh hg e)
  simpa only [back_xr] using this
theorem xr_comm (a b : Nat) : xr a b = xr b a := Nat.xor_comm _ _
theorem step_inj2 {h : Nat} {c d : UInt8} (hh : h < M) (e : step h c = step h d) : c = d := by
  have := step_inj hh hh e
  rw [xr_comm h, xr_comm h] at this
  have e3 : xr (xr c.toNat h) h = xr (xr d.toNat h) h := by rw [this]
  rw [back_xr, back_xr] at e3
  exact UInt8.toNat_inj.1 e3
theorem run_inj (l : List UInt8) : ∀ {h g : Nat}, h < M → g < M → run h l = run g l → h = g := by
  induction l with
  | nil => intro h g _ _ e; exact e
  | cons c l ih => intro h g hh hg e; rw [run_cons, run_cons] at e; exact step_inj1 hh hg (ih (step_lt h c) (step_lt g c) e)
theorem half_back {h : Nat} (hh : h < M) : xr (xr h (half h)) (half (xr h (half h))) = h := by
  have z : h >>> 64 = 0 := by rw [Nat.shiftRight_eq_div_pow]; exact Nat.div_eq_of_lt (by rw [← M_pow]; exact hh)
  have e : ∀ a, half a = a >>> 32 := fun a => by unfold half; rw [Nat.shiftRight_eq_div_pow]
  simp only [e, xr]
  rw [Nat.shiftRight_xor_distrib, ← Nat.shiftRight_add, z, Nat.xor_zero, Nat.xor_assoc, Nat.xor_self, Nat.xor_zero]
theorem part_back {h : Nat} (hh : h < M) : xr (xr (xr h (part h)) (part (xr h (part h)))) (part (part (xr h (part h)))) = h := by
  have z : h >>> 87 = 0 := by
    rw [Nat.shiftRight_eq_div_pow]
    exact Nat.div_eq_of_lt (Nat.lt_of_lt_of_le hh (by rw [M_pow]; exact Nat.pow_le_pow_right (by omega) (by omega)))
  have e : ∀ a, part a = a >>> 29 := fun a => by unfold part; rw [Nat.shiftRight_eq_div_pow]
  simp only [e, xr]
  rw [Nat.shiftRight_xor_distrib, Nat.shiftRight_xor_distrib]
  simp only [← Nat.shiftRight_add]
  show h ^^^ h >>> 29 ^^^ (h >>> 29 ^^^ h >>> 58) ^^^ (h >>> 58 ^^^ h >>> 87) = h
  rw [z, Nat.xor_zero, Nat.xor_assoc, Nat.xor_assoc, Nat.xor_assoc, Nat.xor_self, Nat.xor_zero, Nat.xor_self, Nat.xor_zero]
theorem fin_inj {h g : Nat} (hh : h < M) (hg : g < M) (e : fin h = fin g) : h = g := by
  unfold fin at e
  have e2 : mid h = mid g := by rw [← part_back (mid_lt h), ← part_back (mid_lt g), e]
  unfold mid at e2
  have e3 : mul (mul (xr h (half h)) E) qE = mul (mul (xr g (half g)) E) qE := by rw [e2]
  rw [back_mul hE (xr_lt hh (half_lt hh)), back_mul hE (xr_lt hg (half_lt hg))] at e3
  rw [← half_back hh, ← half_back hg, e3]
theorem seeds {s t : Nat} {l : List UInt8} (hs : s < M) (ht : t < M) (e : hsh s l = hsh t l) : s = t := by
  have e1 := fin_inj (run_lt l (xr_lt hs B_lt)) (run_lt l (xr_lt ht B_lt)) e
  have e2 := run_inj l (xr_lt hs B_lt) (xr_lt ht B_lt) e1
  have := congrArg (fun x => xr x B) e2
  simpa only [back_xr] using this
theorem bytes {s : Nat} {l m : List UInt8} {c d : UInt8} (hs : s < M) (e : hsh s (l ++ c :: m) = hsh s (l ++ d :: m)) : c = d := by
  have hb := xr_lt hs B_lt
  have e1 := fin_inj (run_lt _ hb) (run_lt _ hb) e
  have r : ∀ c, run (xr s B) (l ++ c :: m) = run (step (run (xr s B) l) c) m := fun c => by unfold run; rw [List.foldl_append, List.foldl_cons]
  rw [r, r] at e1
  exact step_inj2 (run_lt l hb) (run_inj m (step_lt _ _) (step_lt _ _) e1)
/- in the walk's words -/
theorem x_is {a b : Nat} (ha : a < M) (hb : b < M) : bits .xor .u64 (a : Int) (b : Int) = (xr a b : Int) := bits_xor_u64_nat a b ha hb
theorem w_is (a b : Nat) : IntKind.u64.wrap ((a : Int) * (b : Int)) = (mul a b : Int) := by
  rw [IntKind.wrap_u64]
  unfold mul
  rw [M_is, Int.natCast_emod, Int.natCast_mul]
  rfl
theorem h_is (a : Nat) : (a : Int) / 4294967296 = (half a : Int) := by unfold half; omega
theorem p_is (a : Nat) : (a : Int) / 536870912 = (part a : Int) := by unfold part; omega
end Dw
end Go.Proofs.YthmmblohfjmbcaaGreat

namespace Go.Proofs.YthmmblohfjmbcaaGreat
open Go.RowKit
theorem ret_u {k : IntKind} {a b : Int} (h : a = b) : Ending.returned (.int k a) = .returned (.int k b) := by rw [h]
namespace Dw
theorem take_run (s : ByteArray) (k h : Nat) (hk : k < s.size) : run h (s.data.toList.take (k + 1)) = step (run h (s.data.toList.take k)) s[k] := by
  rw [List.take_succ_eq_append_getElem (by simpa using hk), run_snoc]
  rfl
theorem take_all (s : ByteArray) (k h : Nat) (hk : s.size ≤ k) : run h (s.data.toList.take k) = run h s.data.toList := by
  rw [List.take_of_length_le (by simpa using hk)]
theorem mid_w {x : Nat} (h : x < M) : IntKind.u64.wrap (bits .xor .u64 (x : Int) (half x : Int) * 11400714819323198485) = (mid x : Int) := by
  rw [x_is h (half_lt h)]
  exact w_is _ 11400714819323198485
theorem fin_w (x : Nat) : bits .xor .u64 (mid x : Int) (part (mid x) : Int) = (fin x : Int) := x_is (mid_lt x) (part_lt (mid_lt x))
theorem le_of {x : Nat} (h : x < M) : (x : Int) ≤ 18446744073709551615 := by rw [M_is] at h; omega
theorem u64_of {n : Int} (h : (Lit.int .u64 n).wf = true) : ∃ x : Nat, n = (x : Int) ∧ x < M := by
  have hx : 0 ≤ n ∧ n ≤ 18446744073709551615 := by simpa [Lit.wf, IntKind.min, IntKind.max, IntKind.signed, IntKind.bits] using h
  exact ⟨n.toNat, by omega, by rw [M_is]; omega⟩
theorem b_w (c : UInt8) : IntKind.u64.wrap (c.toNat : Int) = (c.toNat : Int) := by
  have := c.toNat_lt
  rw [IntKind.wrap_u64]; omega
theorem step_w {x : Nat} (c : UInt8) (h : x < M) : IntKind.u64.wrap (bits .xor .u64 (x : Int) (c.toNat : Int) * 1099511628211) = (step x c : Int) := by
  rw [x_is h (byte_lt c)]
  exact w_is _ 1099511628211
end Dw
set_option maxHeartbeats 400000 in
theorem hash_any (seed : Nat) (s : ByteArray) (w : World) (hs : s.size ≤ maxLen) (hsd : seed < Dw.M) :
    Calls Tryz.prog 105 #[.int .u64 seed, .string s] w fun e w' => e = .returned (.int .u64 (Dw.hsh seed s.data.toList)) ∧ w' = w := by
  unfold maxLen at hs
  have hb : bits .xor .u64 (seed : Int) 14695981039346656037 = (Dw.xr seed Dw.B : Int) := Dw.x_is hsd Dw.B_lt
  have hlt := keep (Dw.xr_lt hsd Dw.B_lt)
  go_enter Tryz.func105, Tryz.ntmps105
  go_wp2
  clear hb
  go_loop [5, 12] (fun h i => ∃ k : Nat, k ≤ s.size ∧ i = .int .i64 k ∧ h = .int .u64 (Dw.run (Dw.xr seed Dw.B) (s.data.toList.take k))) (fun _ i => s.size - (intOf i).toNat)
  case atStart => exact ⟨0, Nat.zero_le _, rfl, rfl⟩
  case round =>
    obtain ⟨k, hk, rfl, rfl⟩ := hrel
    by_cases hc : k < s.size
    · have e := keep (Dw.take_run s k (Dw.xr seed Dw.B) hc)
      have hl := Dw.run_lt (s.data.toList.take k) hlt.out
      have e1 := Dw.step_w s[k] hl
      have e0 := Dw.b_w s[k]
      generalize Dw.run (Dw.xr seed Dw.B) (s.data.toList.take k) = X at *
      clear hl
      go_wp2
      go_round
      case rel => exact ⟨k + 1, by omega, by go_num, by rw [e.out]⟩
      case measure => simp [intOf]; omega
    · rw [Dw.take_all s k _ (by omega)]
      have hl := Dw.run_lt s.data.toList hlt.out
      have e1 := Dw.mid_w hl
      have e2 := Dw.fin_w (Dw.run (Dw.xr seed Dw.B) s.data.toList)
      have e3 := Dw.h_is (Dw.run (Dw.xr seed Dw.B) s.data.toList)
      have e4 := Dw.p_is (Dw.mid (Dw.run (Dw.xr seed Dw.B) s.data.toList))
      have hh : Kept (Dw.hsh seed s.data.toList = Dw.fin (Dw.run (Dw.xr seed Dw.B) s.data.toList)) := keep (by unfold Dw.hsh; rfl)
      generalize Dw.run (Dw.xr seed Dw.B) s.data.toList = X at *
      have b1 : (X : Int) ≤ 18446744073709551615 := by rw [Dw.M_is] at hl; omega
      have b2 : (Dw.mid X : Int) ≤ 18446744073709551615 := by have := Dw.mid_lt X; rw [Dw.M_is] at this; omega
      clear hl
      go_wp2
      go_ret
      exact ⟨ret_u (by rw [hh.out]), rfl⟩
namespace Dw
theorem times_w {a b : Nat} : ((a % 4294967296 * (b % 4294967296)) % M + ((a / 4294967296 * (b % 4294967296)) % M + (a % 4294967296 * (b / 4294967296)) % M) % M % 4294967296 * 4294967296 % M) % M = mul a b := by
  have ha : a = 4294967296 * (a / 4294967296) + a % 4294967296 := by omega
  have hb : b = 4294967296 * (b / 4294967296) + b % 4294967296 := by omega
  generalize a / 4294967296 = p at *
  generalize a % 4294967296 = q at *
  generalize b / 4294967296 = r at *
  generalize b % 4294967296 = t at *
  subst ha hb
  unfold mul
  have e : (4294967296 * p + q) * (4294967296 * r + t) = 18446744073709551616 * (p * r) + 4294967296 * (p * t + q * r) + q * t := by
    rw [Nat.add_mul, Nat.mul_add, Nat.mul_add, Nat.mul_add]
    have e1 : 4294967296 * p * (4294967296 * r) = 18446744073709551616 * (p * r) := by
      rw [Nat.mul_assoc, Nat.mul_left_comm p, ← Nat.mul_assoc]
    have e2 : 4294967296 * p * t = 4294967296 * (p * t) := Nat.mul_assoc _ _ _
    have e3 : q * (4294967296 * r) = 4294967296 * (q * r) := Nat.mul_left_comm _ _ _
    rw [e1, e2, e3]; omega
  rw [e, M_is]
  generalize p * r = x1
  generalize p * t = x2
  generalize q * r = x3
  generalize q * t = x4
  omega
theorem times_i (a b : Nat) : IntKind.u64.wrap (IntKind.u64.wrap ((a : Int) % 4294967296 * ((b : Int) % 4294967296)) + IntKind.u64.wrap ((IntKind.u64.wrap (IntKind.u64.wrap ((a : Int) / 4294967296 * ((b : Int) % 4294967296)) + IntKind.u64.wrap ((a : Int) % 4294967296 * ((b : Int) / 4294967296)))).tmod 4294967296 * 4294967296)) = (mul a b : Int) := by
  rw [← times_w, M_is]
  simp only [IntKind.wrap_u64]
  rw [Int.tmod_eq_emod_of_nonneg (Int.emod_nonneg _ (by decide))]
  simp only [Int.natCast_emod, Int.natCast_add, Int.natCast_mul, Int.natCast_ediv]
  rfl
end Dw
end Go.Proofs.YthmmblohfjmbcaaGreat
