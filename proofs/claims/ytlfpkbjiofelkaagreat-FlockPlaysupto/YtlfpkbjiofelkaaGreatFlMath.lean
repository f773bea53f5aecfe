/-
  Plain mathematics: the order of texts, a row of members that rises, what members cost.
-/
import Derived.Test.YtlfpkbjiofelkaaGreatDictTale
namespace Go.Proofs.YtlfpkbjiofelkaaGreat
open Go.RowKit Go.Shelf
/-- a text's bytes -/
def ky (x : ByteArray) : List UInt8 := x.data.toList
theorem ky_inj {x y : ByteArray} (h : ky x = ky y) : x = y := by
  obtain ⟨⟨a⟩⟩ := x
  obtain ⟨⟨b⟩⟩ := y
  simp only [ky] at h
  rw [h]
theorem less_is : ∀ (x y : List UInt8), Op.bytesLess x y = decide (x < y)
  | [], [] => by simp [Op.bytesLess]
  | _ :: _, [] => by simp [Op.bytesLess]
  | [], _ :: _ => by simp [Op.bytesLess]
  | a :: x, b :: y => by
    rw [Op.bytesLess, less_is x y]
    simp only [List.cons_lt_cons_iff]
    by_cases h1 : a < b <;> by_cases h2 : a = b <;> by_cases h3 : x < y <;> simp [h1, h2, h3]
/-- m is l, with rising fields -/
def Srt (l m : List Ent) : Prop := m.Perm l ∧ m.Pairwise (fun a b => ky a.1 < ky b.1)
theorem srt_eq : ∀ {l m : List Ent}, l.Pairwise (fun a b => ky a.1 < ky b.1) → m.Pairwise (fun a b => ky a.1 < ky b.1) → l.Perm m → l = m := by
  intro l
  induction l with
  | nil => intro m _ _ h; exact (List.nil_perm.1 h).symm
  | cons a l ih =>
    intro m hl hm h
    cases m with
    | nil => exact absurd h.length_eq (by simp)
    | cons b m =>
      rw [List.pairwise_cons] at hl hm
      have hab : a = b := by
        have ha : a ∈ b :: m := h.subset (by simp)
        have hb : b ∈ a :: l := h.symm.subset (by simp)
        rcases List.mem_cons.1 ha with e | e
        · exact e
        · rcases List.mem_cons.1 hb with e' | e'
          · exact e'.symm
          · exact absurd (List.lt_trans (hm.1 a e) (hl.1 b e')) (List.lt_irrefl _)
      subst hab
      rw [ih hl.2 hm.2 ((List.perm_cons a).1 h)]
theorem Srt.eq {l l' m m' : List Ent} (h : Srt l m) (h' : Srt l' m') (hp : l.Perm l') : m = m' := srt_eq h.2 h'.2 (h.1.trans (hp.trans h'.1.symm))
/-- what a row of pairs costs -/
def cst (l : List Ent) : Nat := (l.map fun e => 24 + e.1.size).sum
theorem cst_nil : cst [] = 0 := rfl
theorem cst_cons (e : Ent) (l : List Ent) : cst (e :: l) = 24 + e.1.size + cst l := by simp [cst]
theorem cst_perm {l m : List Ent} (h : l.Perm m) : cst l = cst m := (h.map _).sum_nat
theorem cst_le {l : List Ent} (h : ∀ e ∈ l, e.1.size ≤ 1048576) : cst l ≤ l.length * 1048600 := by
  induction l with
  | nil => simp [cst]
  | cons e l ih =>
    have h1 := ih (fun x hx => h x (List.mem_cons_of_mem _ hx))
    have h2 := h e (by simp)
    rw [cst_cons, List.length_cons, Nat.add_mul]
    omega
/-- what one key costs -/
def cstO (k : ByteArray) : Option Unit → Nat
  | none => 0
  | some _ => 24 + k.size
theorem split_key (k : ByteArray) : ∀ {l : List Ent}, (Dc.keys l).Nodup → l.Perm ((match Dc.look k l with | some x => [(k, x)] | none => []) ++ l.filter (fun e => decide (e.1 ≠ k))) := by
  intro l
  induction l with
  | nil => intro _; exact List.Perm.refl _
  | cons e l ih =>
    intro hn
    simp only [Dc.keys, List.map_cons, List.nodup_cons] at hn
    have hi := ih hn.2
    by_cases h : e.1 = k
    · have hk : Dc.look k l = none := (Dc.look_none k).2 (h ▸ hn.1)
      rw [hk] at hi
      simp only [Dc.look, if_pos h]
      rw [List.filter_cons_of_neg (by simpa using h)]
      obtain ⟨a, b⟩ := e
      simp only at h
      subst h
      exact List.Perm.cons _ hi
    · simp only [Dc.look, if_neg h]
      rw [List.filter_cons_of_pos (by simpa using h)]
      exact (List.Perm.cons e hi).trans (List.perm_middle.symm)
theorem cst_split {k : ByteArray} {l : List Ent} (hn : (Dc.keys l).Nodup) : cst l = cstO k (Dc.look k l) + cst (l.filter (fun e => decide (e.1 ≠ k))) := by
  rw [cst_perm (split_key k hn)]
  cases Dc.look k l with
  | none => simp [cstO]
  | some x => simp [cstO, cst_cons]
theorem perm_of_mem {α : Type} [DecidableEq α] : ∀ {l m : List α}, l.Nodup → m.Nodup → (∀ a, a ∈ l ↔ a ∈ m) → l.Perm m := by
  intro l
  induction l with
  | nil =>
    intro m _ _ h
    cases m with
    | nil => exact List.Perm.refl _
    | cons b m => exact absurd ((h b).2 (by simp)) (by simp)
  | cons a l ih =>
    intro m hl hm h
    have ha : a ∈ m := (h a).1 (by simp)
    rw [List.nodup_cons] at hl
    refine (List.Perm.cons a (ih hl.2 (hm.erase a) (fun x => ?_))).trans (List.perm_cons_erase ha).symm
    rw [hm.mem_erase_iff]
    constructor
    · intro hx
      exact ⟨fun e => hl.1 (e ▸ hx), (h x).1 (by simp [hx])⟩
    · rintro ⟨h1, h2⟩
      rcases List.mem_cons.1 ((h x).2 h2) with e | e
      · exact absurd e h1
      · exact e
theorem ent_nodup {l : List Ent} (h : (Dc.keys l).Nodup) : l.Nodup := by
  unfold Dc.keys at h
  induction l with
  | nil => exact List.nodup_nil
  | cons x l ih =>
    rw [List.map_cons, List.nodup_cons] at h
    exact List.nodup_cons.2 ⟨fun hm => h.1 (List.mem_map_of_mem hm), ih h.2⟩
theorem rest_perm {k : ByteArray} {l m : List Ent} (hl : (Dc.keys l).Nodup) (hm : (Dc.keys m).Nodup) (h : ∀ k', k' ≠ k → Dc.look k' l = Dc.look k' m) : (l.filter (fun e => decide (e.1 ≠ k))).Perm (m.filter (fun e => decide (e.1 ≠ k))) := by
  refine perm_of_mem ((ent_nodup hl).filter _) ((ent_nodup hm).filter _) (fun a => ?_)
  rw [List.mem_filter, List.mem_filter]
  constructor
  · rintro ⟨h1, h2⟩
    have h2' : a.1 ≠ k := by simpa using h2
    exact ⟨(Dc.look_mem hm a.1 a.2).1 ((h a.1 h2') ▸ (Dc.look_mem hl a.1 a.2).2 h1), h2⟩
  · rintro ⟨h1, h2⟩
    have h2' : a.1 ≠ k := by simpa using h2
    exact ⟨(Dc.look_mem hl a.1 a.2).1 ((h a.1 h2').symm ▸ (Dc.look_mem hm a.1 a.2).2 h1), h2⟩
theorem all_nodup {h : ByteArray → Nat} {s : Dc.St ByteArray Unit} (hI : Dc.Inv h s) : (Dc.keys (Dc.all s)).Nodup := by rw [Dc.all_eq hI]; exact hI.nodup
theorem set_cst {h : ByteArray → Nat} {s s' : Dc.St ByteArray Unit} {k : ByteArray} {v : Unit} (hI : Dc.Inv h s) (hI' : Dc.Inv h s') (hs : Setd s s' k v) : cst (Dc.all s') + cstO k (lk s k) = cst (Dc.all s) + (24 + k.size) := by
  rw [cst_split (k := k) (all_nodup hI'), cst_split (k := k) (all_nodup hI), cst_perm (rest_perm (k := k) (all_nodup hI') (all_nodup hI) (fun k' hk => by have := hs.1 k'; unfold lk at this; rw [this, if_neg hk]))]
  have := hs.1 k
  unfold lk at this
  rw [this, if_pos rfl]
  unfold lk
  simp only [cstO]
  omega
theorem del_cst {h : ByteArray → Nat} {s s' : Dc.St ByteArray Unit} {k : ByteArray} (hI : Dc.Inv h s) (hI' : Dc.Inv h s') (hs : Deld s s' k) : cst (Dc.all s') + cstO k (lk s k) = cst (Dc.all s) := by
  rw [cst_split (k := k) (all_nodup hI'), cst_split (k := k) (all_nodup hI), cst_perm (rest_perm (k := k) (all_nodup hI') (all_nodup hI) (fun k' hk => by have := hs.1 k'; unfold lk at this; rw [this, if_neg hk]))]
  have := hs.1 k
  unfold lk at this
  rw [this, if_pos rfl]
  unfold lk
  simp only [cstO]
  omega
theorem sam_cst {h : ByteArray → Nat} {s s' : Dc.St ByteArray Unit} (hI : Dc.Inv h s) (hI' : Dc.Inv h s') (hs : Samd s s') : (Dc.all s').Perm (Dc.all s) :=
  perm_of_mem (ent_nodup (all_nodup hI')) (ent_nodup (all_nodup hI)) (fun a => by
    have := hs.1 a.1
    unfold lk at this
    rw [← Dc.look_mem (all_nodup hI'), ← Dc.look_mem (all_nodup hI), this])
/-- what may be held -/
def Bnd (s : Dc.St ByteArray Unit) : Prop := (∀ k v, lk s k = some v → k.size ≤ 1048576) ∧ ln s ≤ 1048576
theorem Bnd.cst {h : ByteArray → Nat} {s : Dc.St ByteArray Unit} (hB : Bnd s) (hI : Dc.Inv h s) : cst (Dc.all s) ≤ 1099536793600 := by
  have h1 := cst_le (l := Dc.all s) (fun e he => hB.1 e.1 e.2 ((Dc.look_mem (all_nodup hI) e.1 e.2).2 he))
  have h2 : (Dc.all s).length ≤ 1048576 := hB.2
  omega
theorem Bnd.sam {s s' : Dc.St ByteArray Unit} (hB : Bnd s) (hs : Samd s s') : Bnd s' := ⟨fun k v h => hB.1 k v (by rw [← hs.1 k]; exact h), by rw [hs.2]; exact hB.2⟩
theorem Bnd.set {s s' : Dc.St ByteArray Unit} {k : ByteArray} {v : Unit} (hB : Bnd s) (hs : Setd s s' k v) (hk : k.size ≤ 1048576) (hn : lk s k = none → ln s < 1048576) : Bnd s' := by
  refine ⟨fun k' v' h => ?_, ?_⟩
  · rw [hs.1 k'] at h
    by_cases e : k' = k
    · rw [if_pos e] at h
      cases h
      rw [e]
      exact hk
    · rw [if_neg e] at h
      exact hB.1 k' v' h
  · rw [hs.2]
    cases e : lk s k with
    | none => have := hn e; simp; omega
    | some x => simpa using hB.2
theorem Bnd.del {s s' : Dc.St ByteArray Unit} {k : ByteArray} (hB : Bnd s) (hs : Deld s s' k) : Bnd s' := by
  refine ⟨fun k' v' h => ?_, by rw [hs.2]; have := hB.2; omega⟩
  rw [hs.1 k'] at h
  by_cases e : k' = k
  · rw [if_pos e] at h; cases h
  · rw [if_neg e] at h; exact hB.1 k' v' h
end Go.Proofs.YtlfpkbjiofelkaaGreat
