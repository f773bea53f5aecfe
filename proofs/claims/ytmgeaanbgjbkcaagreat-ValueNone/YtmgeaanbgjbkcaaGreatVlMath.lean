/-
  Values as plain data: what is refused, and that the order of rows does not matter for it.
-/
import Derived.Test.YtmgeaanbgjbkcaaGreatFloats
namespace Go.Proofs.YtmgeaanbgjbkcaaGreat
namespace Vl
/-- plain data: a kind, a text, texts, pairs, members with their scores' bits -/
structure Dt where
  kind : Int
  text : ByteArray
  items : List ByteArray
  pairs : List (ByteArray × ByteArray)
  ranks : List (ByteArray × Nat)
/-- nothing stands where the kind has no use for it -/
def Fit (d : Dt) : Prop :=
  (d.kind = 1 ∧ d.items = [] ∧ d.pairs = [] ∧ d.ranks = []) ∨ ((d.kind = 2 ∨ d.kind = 4) ∧ d.text.size = 0 ∧ d.pairs = [] ∧ d.ranks = []) ∨
  (d.kind = 3 ∧ d.text.size = 0 ∧ d.items = [] ∧ d.ranks = []) ∨ (d.kind = 5 ∧ d.text.size = 0 ∧ d.items = [] ∧ d.pairs = [])
def Twin (d : Dt) : Prop := (d.kind = 4 ∧ ¬ d.items.Nodup) ∨ ¬ (d.pairs.map Prod.fst).Nodup ∨ ¬ (d.ranks.map Prod.fst).Nodup
def Void (d : Dt) : Prop := ∃ e ∈ d.ranks, isNan e.2 = true
def Bad (d : Dt) : Prop := ¬ Fit d ∨ Twin d ∨ Void d
def Long (d : Dt) : Prop := 1048576 < d.text.size ∨ (∃ x ∈ d.items, 1048576 < x.size) ∨ (∃ x ∈ d.pairs, 1048576 < x.1.size ∨ 1048576 < x.2.size) ∨ ∃ x ∈ d.ranks, 1048576 < x.1.size
def Full (d : Dt) : Prop := 1048576 < d.items.length ∨ 1048576 < d.pairs.length ∨ 1048576 < d.ranks.length
/-- c: why no value is made of it; 0: one is made -/
def Rfz (d : Dt) (c : Int) : Prop := (c = 3 ∧ Bad d) ∨ (c = 2 ∧ ¬ Bad d ∧ Long d) ∨ (c = 4 ∧ ¬ Bad d ∧ ¬ Long d ∧ Full d) ∨ (c = 0 ∧ ¬ Bad d ∧ ¬ Long d ∧ ¬ Full d)
theorem Rfz.one {d : Dt} {c c' : Int} (h : Rfz d c) (h' : Rfz d c') : c = c' := by
  unfold Rfz at h h'
  rcases h with ⟨rfl, a⟩ | ⟨rfl, a⟩ | ⟨rfl, a⟩ | ⟨rfl, a⟩ <;> rcases h' with ⟨rfl, b⟩ | ⟨rfl, b⟩ | ⟨rfl, b⟩ | ⟨rfl, b⟩ <;> simp_all
theorem rfz_ex (d : Dt) : ∃ c, Rfz d c := by
  unfold Rfz
  by_cases h1 : Bad d
  · exact ⟨3, .inl ⟨rfl, h1⟩⟩
  · by_cases h2 : Long d
    · exact ⟨2, .inr (.inl ⟨rfl, h1, h2⟩)⟩
    · by_cases h3 : Full d
      · exact ⟨4, .inr (.inr (.inl ⟨rfl, h1, h2, h3⟩))⟩
      · exact ⟨0, .inr (.inr (.inr ⟨rfl, h1, h2, h3⟩))⟩
theorem Rfz.codes {d : Dt} {c : Int} (h : Rfz d c) : c = 3 ∨ c = 2 ∨ c = 4 ∨ c = 0 := by
  unfold Rfz at h; rcases h with h | h | h | h
  · exact .inl h.1
  · exact .inr (.inl h.1)
  · exact .inr (.inr (.inl h.1))
  · exact .inr (.inr (.inr h.1))
theorem Rfz.ok {d : Dt} (h : Rfz d 0) : ¬ Bad d ∧ ¬ Long d ∧ ¬ Full d := by
  unfold Rfz at h
  rcases h with ⟨h, _⟩ | ⟨h, _⟩ | ⟨h, _⟩ | ⟨_, h⟩
  · exact absurd h (by decide)
  · exact absurd h (by decide)
  · exact absurd h (by decide)
  · exact h
theorem Rfz.bad {d : Dt} (h : Bad d) : Rfz d 3 := .inl ⟨rfl, h⟩
/-- the same data in another order -/
def Pm (d d' : Dt) : Prop := d'.kind = d.kind ∧ d'.text = d.text ∧ d'.items.Perm d.items ∧ d'.pairs.Perm d.pairs ∧ d'.ranks.Perm d.ranks
theorem Pm.refl (d : Dt) : Pm d d := ⟨rfl, rfl, .refl _, .refl _, .refl _⟩
theorem Pm.symm {d d' : Dt} (h : Pm d d') : Pm d' d := ⟨h.1.symm, h.2.1.symm, h.2.2.1.symm, h.2.2.2.1.symm, h.2.2.2.2.symm⟩
theorem nil_iff {α : Type} {l m : List α} (h : l.Perm m) : l = [] ↔ m = [] := by
  constructor
  · intro e; subst e; exact List.nil_perm.1 h
  · intro e; subst e; exact List.perm_nil.1 h
theorem Pm.bad {d d' : Dt} (h : Pm d d') (hb : Bad d) : Bad d' := by
  obtain ⟨h1, h2, h3, h4, h5⟩ := h
  unfold Bad Fit Twin Void at *
  rw [h1, h2, nil_iff h3, nil_iff h4, nil_iff h5, h3.nodup_iff, (h4.map Prod.fst).nodup_iff, (h5.map Prod.fst).nodup_iff]
  rcases hb with hb | hb | ⟨e, he, hn⟩
  · exact .inl hb
  · exact .inr (.inl hb)
  · exact .inr (.inr ⟨e, h5.symm.subset he, hn⟩)
theorem Pm.long {d d' : Dt} (h : Pm d d') (hb : Long d) : Long d' := by
  obtain ⟨h1, h2, h3, h4, h5⟩ := h
  unfold Long at *
  rw [h2]
  rcases hb with hb | ⟨e, he, hn⟩ | ⟨e, he, hn⟩ | ⟨e, he, hn⟩
  · exact .inl hb
  · exact .inr (.inl ⟨e, h3.symm.subset he, hn⟩)
  · exact .inr (.inr (.inl ⟨e, h4.symm.subset he, hn⟩))
  · exact .inr (.inr (.inr ⟨e, h5.symm.subset he, hn⟩))
theorem Pm.full {d d' : Dt} (h : Pm d d') (hb : Full d) : Full d' := by
  obtain ⟨h1, h2, h3, h4, h5⟩ := h
  unfold Full at *
  rw [h3.length_eq, h4.length_eq, h5.length_eq]
  exact hb
theorem Pm.rfz {d d' : Dt} (h : Pm d d') {c : Int} (hc : Rfz d c) : Rfz d' c := by
  unfold Rfz at *
  have b := h.symm
  rcases hc with ⟨e, q⟩ | ⟨e, q1, q2⟩ | ⟨e, q1, q2, q3⟩ | ⟨e, q1, q2, q3⟩
  · exact .inl ⟨e, h.bad q⟩
  · exact .inr (.inl ⟨e, fun x => q1 (b.bad x), h.long q2⟩)
  · exact .inr (.inr (.inl ⟨e, fun x => q1 (b.bad x), fun x => q2 (b.long x), h.full q3⟩))
  · exact .inr (.inr (.inr ⟨e, fun x => q1 (b.bad x), fun x => q2 (b.long x), fun x => q3 (b.full x)⟩))
/-- the rows the other way round -/
def turn (d : Dt) : Dt := ⟨d.kind, d.text, d.items.reverse, d.pairs.reverse, d.ranks.reverse⟩
theorem turn_pm (d : Dt) : Pm d (turn d) := ⟨rfl, rfl, List.reverse_perm _, List.reverse_perm _, List.reverse_perm _⟩
end Vl
end Go.Proofs.YtmgeaanbgjbkcaaGreat
