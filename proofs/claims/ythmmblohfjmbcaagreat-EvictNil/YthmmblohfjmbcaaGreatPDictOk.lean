/-
  What is so of a table between two calls, and how a change of one entry turns the memory.
-/
import Derived.Test.YthmmblohfjmbcaaGreatPDictAlter
import Derived.Test.YthmmblohfjmbcaaGreatPDictSeek
import Derived.Test.YthmmblohfjmbcaaGreatPDictStep
namespace Go.Proofs.YthmmblohfjmbcaaGreat.DP
open Go.RowKit Go.Shelf
/-- N: a bound of the keys that there were -/
def Okd (h : ByteArray → Nat) (N : Nat) (s : Dc.St ByteArray (Option Addr)) : Prop :=
  Dc.Inv h s ∧ (∀ e ∈ Dc.all s, e.1.size ≤ maxLen) ∧ (Dc.all s).length ≤ N ∧ s.old.length ≤ 2 * N + 4 ∧ s.young.length ≤ 2 * N + 4
theorem Okd.more {h : ByteArray → Nat} {N N' : Nat} {s : Dc.St ByteArray (Option Addr)} (hO : Okd h N s) (hN : N ≤ N') : Okd h N' s := ⟨hO.1, hO.2.1, Nat.le_trans hO.2.2.1 hN, by have := hO.2.2.2.1; omega, by have := hO.2.2.2.2; omega⟩
theorem okd_none (h : ByteArray → Nat) (N : Nat) : Okd h N Dc.none0 := ⟨Dc.none0_inv h, fun e he => by simp [Dc.all, Dc.none0] at he, by simp [Dc.all, Dc.none0], by simp [Dc.none0], by simp [Dc.none0]⟩
theorem okd_step {h : ByteArray → Nat} {N : Nat} {s : Dc.St ByteArray (Option Addr)} (hO : Okd h N s) : Okd h N (Dc.step h s) ∧ (Dc.all (Dc.step h s)).length = (Dc.all s).length := by
  obtain ⟨h1, h2, h3, h4, h5⟩ := hO
  obtain ⟨q1, q2⟩ := Dc.step_inv h1
  refine ⟨⟨q1, fun e he => h2 e (q2.mem_iff.1 he), by rw [q2.length_eq]; exact h3, ?_, ?_⟩, q2.length_eq⟩
  · by_cases hy : s.young = []
    · rw [Dc.step_still h hy]; exact h4
    · rcases Dc.step_little h1 hy with ⟨_, _, e⟩ | ⟨_, _, e, _⟩
      · rw [e]; exact h5
      · rw [e]; exact h4
  · by_cases hy : s.young = []
    · rw [Dc.step_still h hy]; exact h5
    · rcases Dc.step_little h1 hy with ⟨e, _, _⟩ | ⟨_, _, _, e⟩
      · rw [e]; simp
      · rw [e]; exact h5
theorem fitF_le2 (f : Nat) : ∀ m n : Nat, Dc.fitF f m n ≤ max m (2 * n) := by
  induction f with
  | zero => intro m n; simp only [Dc.fitF]; omega
  | succ f ih =>
    intro m n
    simp only [Dc.fitF]
    split
    · have := ih (2 * m) n; omega
    · omega
theorem fit_le2 (n : Nat) : Dc.fit n ≤ 2 * n + 4 := by have := fitF_le2 n 4 n; unfold Dc.fit; omega
theorem grow_len {n N : Nat} {s : Dc.St ByteArray (Option Addr)} (hn : n ≤ N) (h4 : s.old.length ≤ 2 * N + 4) (h5 : s.young.length ≤ 2 * N + 4) : (Dc.grow n s).old.length ≤ 2 * N + 4 ∧ (Dc.grow n s).young.length ≤ 2 * N + 4 := by
  unfold Dc.grow
  split
  · exact ⟨by simp, by simp⟩
  · split
    · rename_i hc
      rw [Bool.and_eq_true, decide_eq_true_iff] at hc
      refine ⟨h4, ?_⟩
      rw [List.length_replicate]; omega
    · exact ⟨h4, h5⟩
theorem lay_len {h : ByteArray → Nat} {M : Nat} {s : Dc.St ByteArray (Option Addr)} {e : Ent} (hh : s.old.length ≤ M ∧ s.young.length ≤ M) : (Dc.lay h s e).old.length ≤ M ∧ (Dc.lay h s e).young.length ≤ M := by
  unfold Dc.lay
  split
  · exact ⟨by rw [Dc.push_len]; exact hh.1, hh.2⟩
  · exact ⟨hh.1, by rw [Dc.push_len]; exact hh.2⟩
theorem okd_set {h : ByteArray → Nat} {N : Nat} {s : Dc.St ByteArray (Option Addr)} (hO : Okd h N s) {key : ByteArray} (hk : key.size ≤ maxLen) (v : Option Addr) : Okd h (N + 1) (Dc.set h s key v).1 := by
  obtain ⟨h1, h2, h3, h4, h5⟩ := hO
  obtain ⟨q1, q2, q3, q4⟩ := Dc.set_inv h1 key v
  have hS := (okd_step ⟨h1, h2, h3, h4, h5⟩).1
  refine ⟨q1, fun e he => ?_, by rw [q4]; split <;> omega, ?_⟩
  · have hn : (Dc.keys (Dc.all (Dc.set h s key v).1)).Nodup := by rw [Dc.all_eq q1]; exact q1.nodup
    have hl := (Dc.look_mem hn e.1 e.2).2 he
    rw [q3] at hl
    by_cases hke : e.1 = key
    · rw [hke]; exact hk
    · rw [if_neg hke] at hl
      have hn1 : (Dc.keys (Dc.all s)).Nodup := by rw [Dc.all_eq h1]; exact h1.nodup
      exact h2 e ((Dc.look_mem hn1 e.1 e.2).1 hl)
  · obtain ⟨_, _, s3, s4, s5⟩ := hS
    unfold Dc.set
    split
    · unfold Dc.every
      simp only [List.length_map]
      omega
    · have := grow_len (n := (Dc.all (Dc.step h s)).length) (N := N + 1) (s := Dc.step h s) (by omega) (by omega) (by omega)
      exact lay_len this
theorem okd_delete {h : ByteArray → Nat} {N : Nat} {s : Dc.St ByteArray (Option Addr)} (hO : Okd h N s) (key : ByteArray) : Okd h N (Dc.delete h s key).1 := by
  obtain ⟨h1, h2, h3, h4, h5⟩ := hO
  obtain ⟨q1, q2, q3, q4⟩ := Dc.delete_inv h1 key
  have hS := (okd_step ⟨h1, h2, h3, h4, h5⟩).1
  refine ⟨q1, fun e he => ?_, by rw [q4]; omega, ?_⟩
  · have hn : (Dc.keys (Dc.all (Dc.delete h s key).1)).Nodup := by rw [Dc.all_eq q1]; exact q1.nodup
    have hl := (Dc.look_mem hn e.1 e.2).2 he
    rw [q3] at hl
    by_cases hke : e.1 = key
    · rw [if_pos hke] at hl; cases hl
    · rw [if_neg hke] at hl
      have hn1 : (Dc.keys (Dc.all s)).Nodup := by rw [Dc.all_eq h1]; exact h1.nodup
      exact h2 e ((Dc.look_mem hn1 e.1 e.2).1 hl)
  · obtain ⟨_, _, s3, s4, s5⟩ := hS
    unfold Dc.delete
    split
    · unfold Dc.shrink
      split
      · have := fit_le2 ((Dc.all (Dc.step h s)).length - 1)
        unfold Dc.every
        simp only [List.length_map, List.length_replicate]
        omega
      · unfold Dc.every
        simp only [List.length_map]
        omega
    · exact ⟨s4, s5⟩
/-- an entry's value is written -/
theorem set_mem {h : ByteArray → Nat} {w : World} {r : Roles} {b seed n : Nat} {s : Dc.St ByteArray (Option Addr)} {key : ByteArray} {t g cap p gc cc : Nat} {T : Dc.Tab ByteArray (Option Addr)} {x v : Option Addr} {c : List Ent} (hI : Dc.Inv h s) (hD : Dct w r b seed n s) (hT : (t = 0 ∧ T = s.old) ∨ (t = 1 ∧ T = s.young)) (hTb : Tb w r t (.slice (some ⟨g, 0, none⟩) T.length cap) T) (hfc : w.cell? ⟨b, 2 + t, none⟩ = some (.slice (some ⟨g, 0, none⟩) T.length cap))
    (hc : T[h key % T.length]? = some c) (hp : c.reverse[p]? = some (key, x)) (hv : w.cell? ⟨g, h key % T.length, none⟩ = some (.slice (some ⟨gc, 0, none⟩) c.length cc)) (hC : Chn w (.slice (some ⟨gc, 0, none⟩) c.length cc) c) (hr : r gc = (3 + t, h key % T.length)) :
    Dct (w.setCell ⟨gc, p * 2 + 1, none⟩ (.pointer v)) r b seed n (Dc.every (Dc.alter key v) s) ∧ Fr w r (w.setCell ⟨gc, p * 2 + 1, none⟩ (.pointer v)) r := by
  have hcm : c ∈ T := List.mem_of_getElem? hc
  have hxm : (key, x) ∈ c := List.mem_reverse.1 (List.mem_of_getElem? hp)
  have hnd := chain_nodup hI (T := T) (hT.imp (fun h => h.2) (fun h => h.2)) hcm
  have hC' := chn_set (v := v) hC hp
  rw [alter_at hnd hp] at hC'
  have hfx : ∀ c : List Ent, (∀ e ∈ c, e.1 ≠ key) → Dc.alter key v c = c := fun c hcx => map_same (fun e he => if_neg (hcx e he))
  have hk : ∀ k, k ≠ gc → (w.setCell ⟨gc, p * 2 + 1, none⟩ (.pointer v)).heap[k]? = w.heap[k]? := fun k hk => Below.heap_setCell _ _ _ _ hk
  have hsz : (w.setCell ⟨gc, p * 2 + 1, none⟩ (.pointer v)).heap.size = w.heap.size := by simp [World.setCell]
  have hT' := hTb.swap hc hv hC' (fun k e => by cases e; exact hr) (fun k _ e => hk k (fun e' => e (by rw [e']; rfl)))
  obtain ⟨d1, d2, ov, yv, d3, d4, d5⟩ := hD
  have hbc : b ≠ gc := fun e => by rw [← e, d2] at hr; simp at hr; omega
  refine ⟨?_, ⟨rfl, rfl, rfl⟩, by rw [hsz]; exact Nat.le_refl _, fun k _ h0 => ⟨hk k (fun e => by rw [e, hr] at h0; simp at h0), h0⟩⟩
  rcases hT with ⟨rfl, rfl⟩ | ⟨rfl, rfl⟩
  · rw [every_old hI _ hfx hc hxm]
    have eqv : ov = .slice (some ⟨g, 0, none⟩) s.old.length cap := Option.some.inj ((five d3).2.2.1.symm.trans hfc)
    rw [eqv] at d3
    exact ⟨fun k hk' => by rw [hsz]; exact d1 k hk', d2, _, yv, (hk b hbc).trans d3, hT', d5.kept (fun k _ hr' => ⟨hk k (fun e => by rw [e, hr] at hr'; simp at hr'), rfl⟩)⟩
  · rw [every_young hI _ hfx hc hxm]
    have eqv : yv = .slice (some ⟨g, 0, none⟩) s.young.length cap := Option.some.inj ((five d3).2.2.2.1.symm.trans hfc)
    rw [eqv] at d3
    exact ⟨fun k hk' => by rw [hsz]; exact d1 k hk', d2, ov, _, (hk b hbc).trans d3, d4.kept (fun k _ hr' => ⟨hk k (fun e => by rw [e, hr] at hr'; simp at hr'), rfl⟩), hT'⟩
/-- an entry is taken out; n: the keys that were counted -/
theorem del_mem {h : ByteArray → Nat} {w w3 : World} {r : Roles} {b seed n : Nat} {s : Dc.St ByteArray (Option Addr)} {key : ByteArray} {t g cap p gc cc m : Nat} {T : Dc.Tab ByteArray (Option Addr)} {x : Option Addr} {c : List Ent} (hI : Dc.Inv h s) (hD : Dct w r b seed n s) (hT : (t = 0 ∧ T = s.old) ∨ (t = 1 ∧ T = s.young)) (hTb : Tb w r t (.slice (some ⟨g, 0, none⟩) T.length cap) T) (hfc : w.cell? ⟨b, 2 + t, none⟩ = some (.slice (some ⟨g, 0, none⟩) T.length cap))
    (hc : T[h key % T.length]? = some c) (hp : c.reverse[p]? = some (key, x)) (hr : r gc = (3 + t, h key % T.length)) (ho : Only gc w w3) (hC : Chn w3 (.slice (some ⟨gc, 0, none⟩) m cc) (c.reverse.eraseIdx p).reverse) :
    Dct ((w3.setCell ⟨g, h key % T.length, none⟩ (.slice (some ⟨gc, 0, none⟩) m cc)).setCell ⟨b, 1, none⟩ (.int .i64 ((n - 1 : Nat) : Int))) r b seed (n - 1) (Dc.every (Dc.without key) s) ∧ Fr w r ((w3.setCell ⟨g, h key % T.length, none⟩ (.slice (some ⟨gc, 0, none⟩) m cc)).setCell ⟨b, 1, none⟩ (.int .i64 ((n - 1 : Nat) : Int))) r := by
  have hcm : c ∈ T := List.mem_of_getElem? hc
  have hxm : (key, x) ∈ c := List.mem_reverse.1 (List.mem_of_getElem? hp)
  have hnd := chain_nodup hI (T := T) (hT.imp (fun h => h.2) (fun h => h.2)) hcm
  rw [without_at hnd hp] at hC
  have hrg : r g = (1 + t, 0) := by obtain ⟨_, _, a2, _⟩ := hTb; exact a2 g rfl
  obtain ⟨d1, d2, ov, yv, d3, d4, d5⟩ := hD
  have hbc : b ≠ gc := fun e => by rw [← e, d2] at hr; simp at hr; omega
  have hbg : b ≠ g := fun e => by rw [← e, d2] at hrg; simp at hrg; omega
  have hgg : g ≠ gc := fun e => by rw [← e, hrg] at hr; simp at hr
  have e2 : role r (.slice (some ⟨gc, 0, none⟩) m cc) (3 + t, h key % T.length) = r := by
    funext k
    unfold role
    split
    · rename_i hh; cases hh; exact hr.symm
    · rfl
  have hT' := hTb.put (w1 := w3) (v' := .slice (some ⟨gc, 0, none⟩) m cc) hc (ho.2.2 g hgg) (fun k j hk hrk hj => ho.2.2 k (fun e => by rw [e, hr] at hrk; simp at hrk; exact hj hrk.symm)) hC (fun k e => by cases e; exact .inl hr)
  rw [e2] at hT'
  have hsz : ((w3.setCell ⟨g, h key % T.length, none⟩ (.slice (some ⟨gc, 0, none⟩) m cc)).setCell ⟨b, 1, none⟩ (.int .i64 ((n - 1 : Nat) : Int))).heap.size = w.heap.size := by rw [← ho.2.1]; simp [World.setCell]
  have hk : ∀ k, k ≠ gc → k ≠ g → k ≠ b → ((w3.setCell ⟨g, h key % T.length, none⟩ (.slice (some ⟨gc, 0, none⟩) m cc)).setCell ⟨b, 1, none⟩ (.int .i64 ((n - 1 : Nat) : Int))).heap[k]? = w.heap[k]? := fun k h1 h2 h3 => by
    rw [Below.heap_setCell _ _ _ _ h3, Below.heap_setCell _ _ _ _ h2]; exact ho.2.2 k h1
  have hT2 : Tb ((w3.setCell ⟨g, h key % T.length, none⟩ (.slice (some ⟨gc, 0, none⟩) m cc)).setCell ⟨b, 1, none⟩ (.int .i64 ((n - 1 : Nat) : Int))) r t (.slice (some ⟨g, 0, none⟩) T.length cap) (T.set (h key % T.length) (Dc.without key c)) :=
    hT'.kept (fun k _ hrk => ⟨Below.heap_setCell _ _ _ _ (fun e => by have e : k = b := e; rw [e, d2] at hrk; simp at hrk; rcases hT with ⟨rfl, _⟩ | ⟨rfl, _⟩ <;> omega), rfl⟩)
  have hb3 : (w3.setCell ⟨g, h key % T.length, none⟩ (.slice (some ⟨gc, 0, none⟩) m cc)).heap[b]? = w.heap[b]? := (Below.heap_setCell _ _ _ _ hbg).trans (ho.2.2 b hbc)
  refine ⟨?_, ho.1, by rw [hsz]; exact Nat.le_refl _, fun k _ h0 => ⟨hk k (fun e => by rw [e, hr] at h0; simp at h0) (fun e => by rw [e, hrg] at h0; simp at h0) (fun e => by rw [e, d2] at h0; simp at h0), h0⟩⟩
  rcases hT with ⟨rfl, rfl⟩ | ⟨rfl, rfl⟩
  · rw [every_old hI _ (Dc.without_id key) hc hxm]
    have eqv : ov = .slice (some ⟨g, 0, none⟩) s.old.length cap := Option.some.inj ((five d3).2.2.1.symm.trans hfc)
    rw [eqv] at d3
    exact ⟨fun k hk' => by rw [hsz]; exact d1 k hk', d2, _, yv, cells_setCell (hb3.trans d3), hT2, d5.kept (fun k _ hr' => ⟨hk k (fun e => by rw [e, hr] at hr'; simp at hr') (fun e => by rw [e, hrg] at hr'; simp at hr') (fun e => by rw [e, d2] at hr'; simp at hr'), rfl⟩)⟩
  · rw [every_young hI _ (Dc.without_id key) hc hxm]
    have eqv : yv = .slice (some ⟨g, 0, none⟩) s.young.length cap := Option.some.inj ((five d3).2.2.2.1.symm.trans hfc)
    rw [eqv] at d3
    exact ⟨fun k hk' => by rw [hsz]; exact d1 k hk', d2, ov, _, cells_setCell (hb3.trans d3), d4.kept (fun k _ hr' => ⟨hk k (fun e => by rw [e, hr] at hr'; simp at hr') (fun e => by rw [e, hrg] at hr'; simp at hr') (fun e => by rw [e, d2] at hr'; simp at hr'), rfl⟩), hT2⟩
/-- an entry has been pushed, and the keys are counted -/
theorem push_mem {h : ByteArray → Nat} {w w' : World} {r r' : Roles} {b seed n t g cap : Nat} {s : Dc.St ByteArray (Option Addr)} {T : Dc.Tab ByteArray (Option Addr)} {e : Ent} (hD : Dct w r b seed n s) (hT : (t = 0 ∧ T = s.old) ∨ (t = 1 ∧ T = s.young)) (hfc : w.cell? ⟨b, 2 + t, none⟩ = some (.slice (some ⟨g, 0, none⟩) T.length cap))
    (hT' : Tb w' r' t (.slice (some ⟨g, 0, none⟩) T.length cap) (Dc.push h T e)) (hTr : Tr t w r w' r') :
    Dct (w'.setCell ⟨b, 1, none⟩ (.int .i64 ((n + 1 : Nat) : Int))) r' b seed (n + 1) (if t = 0 then { s with old := Dc.push h s.old e } else { s with young := Dc.push h s.young e }) ∧ Fr w r (w'.setCell ⟨b, 1, none⟩ (.int .i64 ((n + 1 : Nat) : Int))) r' := by
  obtain ⟨d1, d2, ov, yv, d3, d4, d5⟩ := hD
  obtain ⟨a1, a2, a3, a4, _⟩ := hTr
  have hbl := d1 b (by rw [d2]; simp)
  have ht : t ≤ 1 := by rcases hT with ⟨rfl, _⟩ | ⟨rfl, _⟩ <;> omega
  obtain ⟨b1, b2⟩ := a3 b hbl (by rw [d2]; simp; omega) (by rw [d2]; simp; omega)
  have hsz : (w'.setCell ⟨b, 1, none⟩ (.int .i64 ((n + 1 : Nat) : Int))).heap.size = w'.heap.size := by simp [World.setCell]
  have hnb : ∀ k, r k ≠ (5, 0) → k ≠ b := fun k h1 h2 => h1 (by rw [h2]; exact d2)
  have hrest : ∀ k, r' k ≠ (0, 0) → k < (w'.setCell ⟨b, 1, none⟩ (.int .i64 ((n + 1 : Nat) : Int))).heap.size := fun k hk => by
    rw [hsz]
    rcases a4 k hk with h' | ⟨_, h'⟩
    · have := d1 k h'; omega
    · exact h'
  have hT2 : Tb (w'.setCell ⟨b, 1, none⟩ (.int .i64 ((n + 1 : Nat) : Int))) r' t (.slice (some ⟨g, 0, none⟩) T.length cap) (Dc.push h T e) :=
    hT'.kept (fun k _ hrk => ⟨Below.heap_setCell _ _ _ _ (fun e => by have e : k = b := e; rw [e, b2, d2] at hrk; simp at hrk; omega), rfl⟩)
  have keepT : ∀ {u : Nat} {tv : Value} {U : Dc.Tab ByteArray (Option Addr)}, u ≤ 1 → u ≠ t → Tb w r u tv U → Tb (w'.setCell ⟨b, 1, none⟩ (.int .i64 ((n + 1 : Nat) : Int))) r' u tv U := fun hu hne hU =>
    hU.kept (fun k hk hrk => by
      obtain ⟨c1, c2⟩ := a3 k hk (by omega) (by omega)
      exact ⟨(Below.heap_setCell _ _ _ _ (hnb k (fun e => by rw [e] at hrk; simp at hrk; omega))).trans c1, c2⟩)
  refine ⟨?_, a1, by rw [hsz]; exact a2, fun k hk h0 => ?_⟩
  · rcases hT with ⟨rfl, rfl⟩ | ⟨rfl, rfl⟩
    · rw [if_pos rfl]
      have eqv : ov = .slice (some ⟨g, 0, none⟩) s.old.length cap := Option.some.inj ((five d3).2.2.1.symm.trans hfc)
      rw [eqv] at d3
      exact ⟨hrest, b2.trans d2, _, yv, cells_setCell (b1.trans d3), hT2, keepT (by omega) (by omega) d5⟩
    · rw [if_neg (by omega)]
      have eqv : yv = .slice (some ⟨g, 0, none⟩) s.young.length cap := Option.some.inj ((five d3).2.2.2.1.symm.trans hfc)
      rw [eqv] at d3
      exact ⟨hrest, b2.trans d2, ov, _, cells_setCell (b1.trans d3), keepT (by omega) (by omega) d4, hT2⟩
  · obtain ⟨c1, c2⟩ := a3 k hk (by rw [h0]; simp; omega) (by rw [h0]; simp; omega)
    exact ⟨(Below.heap_setCell _ _ _ _ (hnb k (fun e => by rw [h0] at e; cases e))).trans c1, c2.trans h0⟩
end Go.Proofs.YthmmblohfjmbcaaGreat.DP
