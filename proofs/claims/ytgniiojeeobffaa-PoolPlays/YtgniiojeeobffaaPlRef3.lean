/-
  Plain mathematics: what the document's own pool holds behind Offer is what the program's holds, in another order.
-/
import Derived.Test.YtgniiojeeobffaaPlRef2
namespace Go.Proofs.Ytgniiojeeobffaa
open Go.RowKit Go.Shelf
set_option linter.unusedVariables false
set_option linter.unusedSimpArgs false
set_option maxRecDepth 100000
theorem put_full {m : Nat} {c : Ent} {l : List Ent} (h : (put c (del c.1 l)).length ≤ m) : offL m c l = put c (del c.1 l) ∧ offB m c l = true := by
  unfold offL offB
  rw [List.take_of_length_le h, List.getElem?_eq_none h]
  exact ⟨rfl, rfl⟩
theorem set_mid {l : List Ent} {p : Nat} {x c : Ent} (h : l[p]? = some x) : (l.set p c).Perm (c :: (l.take p ++ l.drop (p + 1))) := by
  have hp := (List.getElem?_eq_some_iff.1 h).1
  rw [List.set_eq_take_append_cons_drop, if_pos hp]
  exact List.perm_middle
theorem ref_found {m : Nat} {c : Ent} {all l : List Ent} {p : Nat} {x : Int} (hp : all.Perm l) (hg : Good l) (hl : l.length ≤ m) (h : all[p]? = some (c.1, x)) : (all.set p c).Perm (offL m c l) ∧ offB m c l = true := by
  have hk : all.Pairwise (fun a b => a.1 ≠ b.1) := hp.symm.pairwise hg.2 (fun h => h.symm)
  have h1 := set_mid (c := c) h
  rw [del_at hk h] at h1
  have h2 : (all.set p c).Perm (put c (del c.1 l)) := h1.trans ((List.Perm.cons c (del_perm hp)).trans (put_perm c (del c.1 l)).symm)
  have hlen := h2.length_eq
  rw [List.length_set, hp.length_eq] at hlen
  obtain ⟨e1, e2⟩ := put_full (m := m) (c := c) (l := l) (by omega)
  rw [e1]
  exact ⟨h2, e2⟩
theorem ref_room {m : Nat} {c : Ent} {all l : List Ent} (hp : all.Perm l) (hl : l.length < m) (h : ∀ e ∈ all, e.1 ≠ c.1) : (all ++ [c]).Perm (offL m c l) ∧ offB m c l = true := by
  have hd : del c.1 l = l := del_none (fun e he => h e (hp.mem_iff.2 he))
  obtain ⟨e1, e2⟩ := put_full (m := m) (c := c) (l := l) (by rw [hd, put_length]; omega)
  rw [e1, hd]
  refine ⟨?_, e2⟩
  exact (List.perm_append_comm).trans ((List.Perm.cons c hp).trans (put_perm c l).symm)
/-- the latest of a rising row is its last -/
theorem late_last {l : List Ent} (hg : Good l) {x : Ent} (hx : x ∈ l) (hmax : ∀ y ∈ l, snr x y = false) : ∃ l0, l = l0 ++ [x] := by
  obtain ⟨k, hk⟩ := List.mem_iff_getElem?.1 hx
  have hkl := (List.getElem?_eq_some_iff.1 hk).1
  have hs := split_at hk
  have hd : l.drop (k + 1) = [] := by
    cases hdr : l.drop (k + 1) with
    | nil => rfl
    | cons y r =>
      have hp := hg.1
      rw [hs, hdr, List.pairwise_append, List.pairwise_cons] at hp
      have h1 := hp.2.1.1 y (by simp)
      have hy : y ∈ l := by rw [hs, hdr]; simp
      rw [hmax y hy] at h1
      cases h1
  rw [hd] at hs
  exact ⟨_, hs⟩
theorem ref_full {m : Nat} {c x : Ent} {all l : List Ent} {t : Nat} (hp : all.Perm l) (hg : Good l) (hl : l.length = m) (h : ∀ e ∈ all, e.1 ≠ c.1) (ht : all[t]? = some x) (hmax : ∀ y ∈ all, snr x y = false) :
    (snr c x = false → all.Perm (offL m c l) ∧ offB m c l = false) ∧ (snr c x = true → (all.set t c).Perm (offL m c l) ∧ offB m c l = true) := by
  have hxa : x ∈ all := List.mem_iff_getElem?.2 ⟨t, ht⟩
  have hxl : x ∈ l := hp.mem_iff.1 hxa
  have hkl : ∀ e ∈ l, e.1 ≠ c.1 := fun e he => h e (hp.mem_iff.2 he)
  have hd : del c.1 l = l := del_none hkl
  obtain ⟨l0, hl0⟩ := late_last hg hxl (fun y hy => hmax y (hp.mem_iff.2 hy))
  have hxc : x ≠ c := fun e => hkl x hxl (by rw [e])
  unfold offL offB
  rw [hd]
  refine ⟨fun hs => ?_, fun hs => ?_⟩
  · have hsx : snr x c = true := by
      cases hh : snr x c with
      | true => rfl
      | false => exact absurd (snr_tot hh hs) hxc
    have hall : ∀ y ∈ l, snr y c = true := fun y hy => by
      have hgp := hg.1
      rw [hl0, List.pairwise_append] at hgp
      rw [hl0] at hy
      rcases List.mem_append.1 hy with hy | hy
      · exact snr_trans (hgp.2.2 y hy x (by simp)) hsx
      · rw [List.mem_singleton] at hy; rw [hy]; exact hsx
    have hput : put c l = l ++ [c] := by
      unfold put
      rw [List.filter_eq_self.2 hall, List.filter_eq_nil_iff.2 (fun y hy => by rw [hall y hy]; simp)]
    rw [hput, ← hl, List.take_left' rfl, List.getElem?_append_right (Nat.le_refl _), Nat.sub_self]
    refine ⟨hp, ?_⟩
    show (!eqE c c) = false
    rw [eqE_self]; rfl
  · have hsx : snr x c = false := snr_asym hs
    have hput : put c l = put c l0 ++ [x] := by
      unfold put
      rw [hl0, List.filter_append, List.filter_append]
      simp [hsx]
    have hlen : (put c l0).length = m := by
      rw [put_length, ← hl, hl0, List.length_append]; rfl
    rw [hput, List.take_left' hlen, List.getElem?_append_right (by omega), hlen, Nat.sub_self]
    refine ⟨?_, ?_⟩
    · have h1 := set_mid (c := c) ht
      have h2 : (x :: (all.take t ++ all.drop (t + 1))).Perm (x :: l0) := by
        refine (List.perm_middle.symm.trans ?_)
        rw [← split_at ht]
        refine hp.trans ?_
        rw [hl0]
        exact List.perm_append_comm
      exact h1.trans ((List.Perm.cons c (List.Perm.cons_inv h2)).trans (put_perm c l0).symm)
    · show (!eqE x c) = true
      rw [eqE_not hxc]; rfl
theorem set_same {α : Type} {l : List α} {i : Nat} {a : α} (h : l[i]? = some a) : l.set i a = l := by
  refine List.ext_getElem? (fun t => ?_)
  rw [List.getElem?_set]
  by_cases e : i = t
  · subst e
    rw [if_pos rfl, if_pos (List.getElem?_eq_some_iff.1 h).1, h]
  · rw [if_neg e]
/-- one element of the document's own row is written: its rank alone -/
theorem rp_set1 {w : World} {b m g n cp k : Nat} {all : List Ent} {c : Ent} {x : Int} (h : Rp w b (.slice (some ⟨g, 0, none⟩) n cp) m all) (hn : all.length = n) (hk : all[k]? = some (c.1, x)) :
    Rp (w.setCell ⟨g, k * 2 + 1, none⟩ (.int .u64 c.2)) b (.slice (some ⟨g, 0, none⟩) n cp) m (all.set k c) ∧ Only g w (w.setCell ⟨g, k * 2 + 1, none⟩ (.int .u64 c.2)) := by
  have hkl := (List.getElem?_eq_some_iff.1 hk).1
  have hbg : b ≠ g := fun e => h.2.2 (by rw [e]; rfl)
  have hr := h.2.1
  unfold Row at hr
  rw [hn] at hr
  obtain ⟨cur, hcur, hcc, hcm, hsz, htk, hxl⟩ := own_cur hr
  refine ⟨⟨(Below.heap_setCell _ _ _ _ hbg).trans h.1, ?_, h.2.2⟩, (Only.refl g w).setCell _ _⟩
  unfold Row
  rw [List.length_set, hn]
  refine own_of (cells_set hcur) hcc hcm (by simp [hsz]) ?_ (by rw [enR_len, List.length_set, hn])
  have hsame : (enR all).set (k * 2) (.string c.1) = enR all := set_same (enR_at hk).1
  rw [enR_set, hsame, ← htk]
  simp [Array.toList_setIfInBounds, List.take_set]
theorem rp_set2 {w : World} {b m g n cp k : Nat} {all : List Ent} {c : Ent} (h : Rp w b (.slice (some ⟨g, 0, none⟩) n cp) m all) (hn : all.length = n) (hk : k < n) :
    Rp ((w.setCell ⟨g, k * 2, none⟩ (.string c.1)).setCell ⟨g, k * 2 + 1, none⟩ (.int .u64 c.2)) b (.slice (some ⟨g, 0, none⟩) n cp) m (all.set k c) ∧ Only g w ((w.setCell ⟨g, k * 2, none⟩ (.string c.1)).setCell ⟨g, k * 2 + 1, none⟩ (.int .u64 c.2)) := by
  have hbg : b ≠ g := fun e => h.2.2 (by rw [e]; rfl)
  obtain ⟨r1, _, _⟩ := row_set (c := c) h.2.1 hn hk
  exact ⟨⟨(Below.heap_setCell _ _ _ _ hbg).trans ((Below.heap_setCell _ _ _ _ hbg).trans h.1), r1, h.2.2⟩, ((Only.refl g w).setCell _ _).setCell _ _⟩
theorem Only.fmIn {g : Nat} {w W : World} {M : List Nat} (h : Only g w W) (hg : g ∈ M) : Fm M w M W :=
  ⟨h.1, by rw [h.2.1]; exact Nat.le_refl _, fun k hk hnm => ⟨h.2.2 k (fun e => hnm (by rw [e]; exact hg)), hnm⟩⟩
/-- what Offer of the document's own pool leaves -/
def Rof (w : World) (b m : Nat) (v : Value) (c : Ent) (l : List Ent) (e : Ending) (w' : World) : Prop :=
  e = .returned (.bool (offB m c l)) ∧ ∃ v' all', Rp w' b v' m all' ∧ all'.Perm (offL m c l) ∧ Fm (bl b v) w (bl b v') w'
end Go.Proofs.Ytgniiojeeobffaa
