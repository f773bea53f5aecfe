/-
  How the document's own dict turns in memory: one more key and its number behind all others.
-/
import Derived.Test.YtlfpkbjiofelkaaGreatRd3
import Derived.Test.YtlfpkbjiofelkaaGreatDictTale
/-
  What is so of a table of any values between two calls; what the document's own dict keeps beside it.
-/
namespace Go.Proofs.YtlfpkbjiofelkaaGreat
open Go.RowKit Go.Shelf
set_option linter.unusedVariables false
set_option linter.unusedSimpArgs false
set_option maxRecDepth 100000
namespace Rd
variable {V : Type}
/-- N: a bound of the keys that there were -/
def Okd (h : ByteArray → Nat) (N : Nat) (s : Dc.St ByteArray V) : Prop :=
  Dc.Inv h s ∧ (∀ e ∈ Dc.all s, e.1.size ≤ maxLen) ∧ (Dc.all s).length ≤ N ∧ s.old.length ≤ 2 * N + 4 ∧ s.young.length ≤ 2 * N + 4
theorem Okd.more {h : ByteArray → Nat} {N N' : Nat} {s : Dc.St ByteArray V} (hO : Okd h N s) (hN : N ≤ N') : Okd h N' s := ⟨hO.1, hO.2.1, Nat.le_trans hO.2.2.1 hN, by have := hO.2.2.2.1; omega, by have := hO.2.2.2.2; omega⟩
theorem okd_none (h : ByteArray → Nat) (N : Nat) : Okd (V := V) h N Dc.none0 := ⟨Dc.none0_inv h, fun e he => by simp [Dc.all, Dc.none0] at he, by simp [Dc.all, Dc.none0], by simp [Dc.none0], by simp [Dc.none0]⟩
theorem okd_step {h : ByteArray → Nat} {N : Nat} {s : Dc.St ByteArray V} (hO : Okd h N s) : Okd h N (Dc.step h s) ∧ (Dc.all (Dc.step h s)).length = (Dc.all s).length := by
  obtain ⟨h1, h2, h3, h4, h5⟩ := hO
  obtain ⟨q1, q2⟩ := Dc.step_inv h1
  refine ⟨⟨q1, fun e he => h2 e (q2.mem_iff.1 he), by rw [q2.length_eq]; exact h3, ?_, ?_⟩, q2.length_eq⟩
  · by_cases hy : s.young = []
    · rw [Dc.step_still h hy]; exact h4
    · rcases Dc.step_little h1 hy with ⟨_, _, e⟩ | ⟨_, _, e, _⟩
      · rw [e]; exact h5
      · rw [e]; exact h4
  · by_cases hy : s.young = []
    · rw [Dc.step_still h hy]; exact h5
    · rcases Dc.step_little h1 hy with ⟨e, _, _⟩ | ⟨_, _, _, e⟩
      · rw [e]; simp
      · rw [e]; exact h5
theorem fitF_le2 (f : Nat) : ∀ m n : Nat, Dc.fitF f m n ≤ max m (2 * n) := by
  induction f with
  | zero => intro m n; simp only [Dc.fitF]; omega
  | succ f ih =>
    intro m n
    simp only [Dc.fitF]
    split
    · have := ih (2 * m) n; omega
    · omega
theorem fit_le2 (n : Nat) : Dc.fit n ≤ 2 * n + 4 := by have := fitF_le2 n 4 n; unfold Dc.fit; omega
theorem grow_len {n N : Nat} {s : Dc.St ByteArray V} (hn : n ≤ N) (h4 : s.old.length ≤ 2 * N + 4) (h5 : s.young.length ≤ 2 * N + 4) : (Dc.grow n s).old.length ≤ 2 * N + 4 ∧ (Dc.grow n s).young.length ≤ 2 * N + 4 := by
  unfold Dc.grow
  split
  · exact ⟨by simp, by simp⟩
  · split
    · rename_i hc
      rw [Bool.and_eq_true, decide_eq_true_iff] at hc
      refine ⟨h4, ?_⟩
      rw [List.length_replicate]; omega
    · exact ⟨h4, h5⟩
theorem lay_len {h : ByteArray → Nat} {M : Nat} {s : Dc.St ByteArray V} {e : ByteArray × V} (hh : s.old.length ≤ M ∧ s.young.length ≤ M) : (Dc.lay h s e).old.length ≤ M ∧ (Dc.lay h s e).young.length ≤ M := by
  unfold Dc.lay
  split
  · exact ⟨by rw [Dc.push_len]; exact hh.1, hh.2⟩
  · exact ⟨hh.1, by rw [Dc.push_len]; exact hh.2⟩
theorem okd_set {h : ByteArray → Nat} {N : Nat} {s : Dc.St ByteArray V} (hO : Okd h N s) {key : ByteArray} (hk : key.size ≤ maxLen) (v : V) : Okd h (N + 1) (Dc.set h s key v).1 := by
  obtain ⟨h1, h2, h3, h4, h5⟩ := hO
  obtain ⟨q1, q2, q3, q4⟩ := Dc.set_inv h1 key v
  have hS := (okd_step ⟨h1, h2, h3, h4, h5⟩).1
  refine ⟨q1, fun e he => ?_, by rw [q4]; split <;> omega, ?_⟩
  · have hn : (Dc.keys (Dc.all (Dc.set h s key v).1)).Nodup := by rw [Dc.all_eq q1]; exact q1.nodup
    have hl := (Dc.look_mem hn e.1 e.2).2 he
    rw [q3] at hl
    by_cases hke : e.1 = key
    · rw [hke]; exact hk
    · rw [if_neg hke] at hl
      have hn1 : (Dc.keys (Dc.all s)).Nodup := by rw [Dc.all_eq h1]; exact h1.nodup
      exact h2 e ((Dc.look_mem hn1 e.1 e.2).1 hl)
  · obtain ⟨_, _, s3, s4, s5⟩ := hS
    unfold Dc.set
    split
    · unfold Dc.every
      simp only [List.length_map]
      omega
    · have := grow_len (n := (Dc.all (Dc.step h s)).length) (N := N + 1) (s := Dc.step h s) (by omega) (by omega) (by omega)
      exact lay_len this
theorem okd_delete {h : ByteArray → Nat} {N : Nat} {s : Dc.St ByteArray V} (hO : Okd h N s) (key : ByteArray) : Okd h N (Dc.delete h s key).1 := by
  obtain ⟨h1, h2, h3, h4, h5⟩ := hO
  obtain ⟨q1, q2, q3, q4⟩ := Dc.delete_inv h1 key
  have hS := (okd_step ⟨h1, h2, h3, h4, h5⟩).1
  refine ⟨q1, fun e he => ?_, by rw [q4]; omega, ?_⟩
  · have hn : (Dc.keys (Dc.all (Dc.delete h s key).1)).Nodup := by rw [Dc.all_eq q1]; exact q1.nodup
    have hl := (Dc.look_mem hn e.1 e.2).2 he
    rw [q3] at hl
    by_cases hke : e.1 = key
    · rw [if_pos hke] at hl; cases hl
    · rw [if_neg hke] at hl
      have hn1 : (Dc.keys (Dc.all s)).Nodup := by rw [Dc.all_eq h1]; exact h1.nodup
      exact h2 e ((Dc.look_mem hn1 e.1 e.2).1 hl)
  · obtain ⟨_, _, s3, s4, s5⟩ := hS
    unfold Dc.delete
    split
    · unfold Dc.shrink
      split
      · have := fit_le2 ((Dc.all (Dc.step h s)).length - 1)
        unfold Dc.every
        simp only [List.length_map, List.length_replicate]
        omega
      · unfold Dc.every
        simp only [List.length_map]
        omega
    · exact ⟨s4, s5⟩
/-- the keys that came, in their order, with their numbers: those of the table -/
def KVok (s : Dc.St ByteArray V) (KV : List (ByteArray × Int)) : Prop := (Dc.keys KV).Nodup ∧ (∀ k, k ∈ Dc.keys KV ↔ k ∈ Dc.keys (Dc.all s)) ∧ KV.length = (Dc.all s).length
theorem KVok.look {s : Dc.St ByteArray V} {KV : List (ByteArray × Int)} (h : KVok s KV) (k : ByteArray) : (Dc.look k KV).isSome = (Dc.look k (Dc.all s)).isSome := by
  cases e : Dc.look k KV with
  | none =>
    have h1 := (Dc.look_none k).1 e
    rw [(Dc.look_none k).2 (fun h' => h1 ((h.2.1 k).2 h'))]
    rfl
  | some x =>
    have h1 : k ∈ Dc.keys KV := Classical.byContradiction fun hn => by rw [(Dc.look_none k).2 hn] at e; cases e
    cases e2 : Dc.look k (Dc.all s) with
    | none => exact absurd ((h.2.1 k).1 h1) ((Dc.look_none k).1 e2)
    | some y => rfl
theorem KVok.perm {s s' : Dc.St ByteArray V} {KV : List (ByteArray × Int)} (h : KVok s KV) (hp : (Dc.all s').Perm (Dc.all s)) : KVok s' KV :=
  ⟨h.1, fun k => (h.2.1 k).trans (Dc.keys_perm hp).mem_iff.symm, by rw [hp.length_eq]; exact h.2.2⟩
theorem KVok.step {h' : ByteArray → Nat} {s : Dc.St ByteArray V} {KV : List (ByteArray × Int)} (h : KVok s KV) (hI : Dc.Inv h' s) : KVok (Dc.step h' s) KV := h.perm (Dc.step_inv hI).2
theorem KVok.none : KVok (V := V) Dc.none0 [] := ⟨by simp [Dc.keys], fun k => by simp [Dc.keys, Dc.all, Dc.none0], by simp [Dc.all, Dc.none0]⟩
/-- the document's own dict between calls -/
def Rdd (h : ByteArray → Nat) (N : Nat) (w : World) (r : Roles) (b seed : Nat) (s : Dc.St ByteArray V) (KV : List (ByteArray × Int)) : Prop := RD w r b seed s KV ∧ Okd h N s ∧ KVok s KV
theorem Rdd.step {h : ByteArray → Nat} {seed N : Nat} (hH : RHashIs seed h) {w : World} {r : Roles} {b : Nat} {s : Dc.St ByteArray V} {KV : List (ByteArray × Int)} (hd : Rdd h N w r b seed s KV) (hN : N ≤ 2600000000000) :
    Calls Tryz.prog 65 #[.pointer (some ⟨b, 0, none⟩)] w fun x w' => x = .returned (.tuple #[]) ∧ ∃ r', Rdd h N w' r' b seed (Dc.step h s) KV ∧ Fr w r w' r' := by
  obtain ⟨h1, h2, h3⟩ := hd
  have hlen := h2.2.2.1
  have hfl : Dc.all s = s.old.flatten ++ s.young.flatten := Dc.all_eq h2.1
  refine (rstep_any hH w r b s KV h1 h2.1 (by have := h2.2.2.2.1; unfold maxLen; omega) (by have := h2.2.2.2.2; unfold maxLen; omega) (fun x hx => h2.2.1 x (by rw [hfl]; simp [hx])) (by rw [hfl, List.length_append] at hlen; omega)).mono ?_
  rintro _ w' ⟨rfl, r', hr, hf⟩
  exact ⟨rfl, r', ⟨hr, (okd_step h2).1, h3.step h2.1⟩, hf⟩
end Rd
end Go.Proofs.YtlfpkbjiofelkaaGreat

/-
  Contracts over this program: New, Len, Sizes, Clear, index and Get of the document's own dict.
-/
namespace Go.Proofs.YtlfpkbjiofelkaaGreat
open Go.RowKit Go.Shelf
set_option linter.unusedVariables false
set_option linter.unusedSimpArgs false
set_option maxRecDepth 100000
namespace Rd
variable {V : Type}
set_option maxHeartbeats 1000000 in
theorem new_any (h : ByteArray → Nat) (w : World) (seed N : Nat) :
    Calls Tryz.prog 23 #[.int .u64 seed] w fun e w' => e = .returned (.pointer (some ⟨w.heap.size, 0, none⟩)) ∧ Below w.heap.size w w' ∧ ∃ r, Rdd (V := V) h N w' r w.heap.size seed Dc.none0 [] ∧ ∀ k, r k ≠ (0, 0) → k = w.heap.size := by
  obtain ⟨W, hW⟩ : ∃ W, w.alloc (.cells #[.int .u64 seed, .slice none 0 0, .slice none 0 0, .int .i64 0, .slice none 0 0, .slice none 0 0] 91) = W := ⟨_, rfl⟩
  have HD : Kept (Below w.heap.size w W ∧ ∃ r, Rdd (V := V) h N W r w.heap.size seed Dc.none0 [] ∧ ∀ k, r k ≠ (0, 0) → k = w.heap.size) := by
    refine ⟨by rw [← hW]; exact (Below.refl _ w).alloc (Nat.le_refl _) _, fun k => if k = w.heap.size then (5, 0) else (0, 0), ⟨⟨fun k hk => ?_, by simp, .slice none 0 0, .slice none 0 0, .slice none 0 0, .slice none 0 0, ?_, Tb.new, Tb.new, ⟨⟨rfl, .inl ⟨rfl, rfl⟩⟩, fun k e => by cases e⟩, ⟨⟨rfl, .inl ⟨rfl, rfl⟩⟩, fun k e => by cases e⟩⟩, okd_none h N, KVok.none⟩, fun k hk => ?_⟩
    · by_cases e : k = w.heap.size
      · rw [e, ← hW]; simp
      · simp [e] at hk
    · rw [← hW]; exact heap_alloc_new _ _
    · by_cases e : k = w.heap.size
      · exact e
      · simp [e] at hk
  go_enter Tryz.func23, Tryz.ntmps23
  go_wp2
  go_ret
  exact ⟨rfl, HD.out⟩
/-- where a key stands among all: its place, or -1 -/
def AtK (KV : List (ByteArray × Int)) (key : ByteArray) (a : Int) : Prop := (a = -1 ∧ ∀ e ∈ KV, e.1 ≠ key) ∨ ∃ (p : Nat) (x : Int), a = p ∧ KV[p]? = some (key, x)
set_option maxHeartbeats 2000000 in
theorem index_any {w : World} {r : Roles} {b seed : Nat} {s : Dc.St ByteArray V} {KV : List (ByteArray × Int)} (key : ByteArray) (hD : RD w r b seed s KV) (hn : KV.length ≤ 2600000000000) :
    Calls Tryz.prog 66 #[.pointer (some ⟨b, 0, none⟩), .string key] w fun e w' => (∃ a, e = .returned (.int .i64 a) ∧ AtK KV key a) ∧ w' = w := by
  obtain ⟨ao, ca, bo, cb, ko, kc, vo, vc, h3, h4, h5, h6, h7⟩ := hD.parts
  obtain ⟨c0, c1, c2, c3, c4, c5, cf⟩ := six h3
  have HT := keep h6
  obtain ⟨n, hln⟩ : ∃ n, KV.length = n := ⟨_, rfl⟩
  rw [hln] at c4 hn HT
  have HL := keep hln
  have HN := keep hn
  have HAO : Kept (0 < n → ∃ g, ko = some ⟨g, 0, none⟩) := fun hh => by
    obtain ⟨o, c, e, hg⟩ := HT.out.form
    obtain ⟨g, hg⟩ := hg (by simp [Dc.keys]; have := HL.out; omega)
    subst hg
    injection e with e1
    exact ⟨g, e1⟩
  have HQ : Kept (∀ a w', AtK KV key a → w' = w → ((∃ a', Ending.returned (.int .i64 a) = .returned (.int .i64 a') ∧ AtK KV key a') ∧ w' = w)) := fun a w' h1 h2 => ⟨⟨a, rfl, h1⟩, h2⟩
  clear hD h3 h4 h5 h6 h7 c0 c1 c2 c3 c5 cf hln hn
  go_enter Tryz.func66, Tryz.ntmps66
  go_wp2
  go_loopg [12] n (fun kx s12 wr => ∃ i : Nat, s12 = .int .i64 i ∧ i ≤ n ∧ n - i ≤ kx ∧ Kept (wr = w) ∧ Kept (∀ t x, t < i → KV[t]? = some x → x.1 ≠ key))
  case atStart => exact ⟨0, rfl, Nat.zero_le _, by omega, rfl, fun t x ht => absurd ht (Nat.not_lt_zero _)⟩
  case round =>
    obtain ⟨i, rfl, hin, hg, EW, I⟩ := hrel
    obtain rfl : wr = w := EW.out
    by_cases hlt : i < n
    · obtain ⟨x, hx⟩ : ∃ x, KV[i]? = some x := ⟨_, List.getElem?_eq_getElem (by have := HL.out; omega)⟩
      obtain ⟨g, hg'⟩ := HAO.out (by omega)
      subst hg'
      have e0 := HT.out.at (j := i) (x := x.1) (by unfold Dc.keys; rw [List.getElem?_map, hx]; rfl)
      have i0 : (0 : Int) ≤ (i : Int) := by omega
      have i1 : (i : Int) < (n : Int) := by omega
      have hwi : IntKind.i64.wrap ((i : Int) + 1) = (i : Int) + 1 := by have := HN.out; rw [IntKind.wrap_i64]; omega
      obtain ⟨x1, x2⟩ := x
      dsimp only at e0
      have HX := keep hx
      clear hx
      cases hq : (x1.toList == key.toList)
      · have I' : Kept (∀ t x, t < i + 1 → KV[t]? = some x → x.1 ≠ key) := fun t x ht hx e => by
          rcases Nat.lt_or_ge t i with h' | h'
          · exact I.out t x h' hx e
          · obtain rfl : t = i := by omega
            rw [HX.out] at hx
            cases hx
            dsimp only at e
            rw [e] at hq
            simp at hq
        go_wp2
        go_roundg (n - (i + 1))
        case measure => omega
        case rel => exact ⟨i + 1, by simp, by omega, Nat.le_refl _, rfl, I'.out⟩
      · have hk1 : x1 = key := by
          have h1 := beq_iff_eq.1 hq
          rw [ByteArray.toList_eq, ByteArray.toList_eq] at h1
          obtain ⟨⟨a⟩⟩ := x1
          obtain ⟨⟨b⟩⟩ := key
          simp only at h1
          rw [h1]
        have HF := keep (HQ.out (i : Int) wr (.inr ⟨i, x2, rfl, by rw [HX.out, hk1]⟩) rfl)
        clear hk1
        go_wp2
        go_ret
        exact ⟨HF.out.1, rfl⟩
    · obtain rfl : i = n := by omega
      have HF := keep (HQ.out (-1) wr (.inl ⟨rfl, fun e he => by
        obtain ⟨t, ht⟩ := List.mem_iff_getElem?.1 he
        exact I.out t e (by have := (List.getElem?_eq_some_iff.1 ht).1; have := HL.out; omega) ht⟩) rfl)
      go_wp2
      go_ret
      exact ⟨HF.out.1, rfl⟩
theorem Ix.at {w : World} {g n c : Nat} {l : List Int} {j : Nat} {x : Int} (h : Ix w (.slice (some ⟨g, 0, none⟩) n c) l) (hj : l[j]? = some x) : w.cell? ⟨g, j, none⟩ = some (.int .i64 x) := by
  have := h.cells (g := g) rfl j (.int .i64 x) (by simp [hj])
  rwa [show (⟨g, 0, none⟩ : Addr).add j = ⟨g, j, none⟩ by unfold Addr.add; split <;> simp_all] at this
def gotR (o : Option Int) : Value := .tuple #[.int .i64 (o.getD 0), .bool o.isSome]
theorem look_atK {KV : List (ByteArray × Int)} (hn : (Dc.keys KV).Nodup) {p : Nat} {key : ByteArray} {x : Int} (h : KV[p]? = some (key, x)) : Dc.look key KV = some x := (Dc.look_mem hn key x).2 (List.mem_of_getElem? h)
theorem look_noK {KV : List (ByteArray × Int)} {key : ByteArray} (h : ∀ e ∈ KV, e.1 ≠ key) : Dc.look key KV = none := (Dc.look_none key).2 (fun hm => by obtain ⟨e, he, hek⟩ := List.mem_map.1 hm; exact h e he hek)
theorem Rdd.few {h : ByteArray → Nat} {N : Nat} {w : World} {r : Roles} {b seed : Nat} {s : Dc.St ByteArray V} {KV : List (ByteArray × Int)} (hd : Rdd h N w r b seed s KV) : KV.length ≤ N := by rw [hd.2.2.2.2]; exact hd.2.1.2.2.1
set_option maxHeartbeats 2000000 in
theorem get_any {h : ByteArray → Nat} {seed N : Nat} (hH : RHashIs seed h) (w : World) (r : Roles) (b : Nat) (s : Dc.St ByteArray V) (KV : List (ByteArray × Int)) (key : ByteArray) (hd : Rdd h N w r b seed s KV) (hN : N ≤ 2600000000000) :
    Calls Tryz.prog 41 #[.pointer (some ⟨b, 0, none⟩), .string key] w fun e w' => e = .returned (gotR (Dc.look key KV)) ∧ ∃ r', Rdd h N w' r' b seed (Dc.step h s) KV ∧ Fr w r w' r' := by
  have MS := keep (hd.step hH hN)
  have HNd := keep hd.2.2.1
  have HLn : Kept (KV.length ≤ 2600000000000) := Nat.le_trans hd.few hN
  clear hd
  go_enter Tryz.func41, Tryz.ntmps41
  go_wp2_with fail
  refine MS.out.mono ?_
  rintro _ w1 ⟨rfl, r1, hd1, hf1⟩
  have MI := keep (index_any key hd1.1 HLn.out)
  have HD := keep hd1
  have HF := keep hf1
  clear MS hd1 hf1
  go_wp2_with fail
  refine MI.out.mono ?_
  rintro _ w2 ⟨⟨a, rfl, ha⟩, hw⟩
  obtain rfl := hw.symm
  clear MI
  rcases ha with ⟨rfl, hne⟩ | ⟨p, x, rfl, hp⟩
  · have hl := keep (look_noK hne)
    clear hne
    go_wp2
    refine bodyPost_ret (results_tmp2 rfl _ _ _) rfl ?_
    exact ⟨by rw [hl.out]; rfl, r1, HD.out, HF.out⟩
  · have hpl := (List.getElem?_eq_some_iff.1 hp).1
    have hl := keep (look_atK HNd.out hp)
    obtain ⟨ao, ca, bo, cb, ko, kc, vo, vc, h3, h4, h5, h6, h7⟩ := HD.out.1.parts
    obtain ⟨c0, c1, c2, c3, c4, c5, cf⟩ := six h3
    have hvo : ∃ g, vo = some ⟨g, 0, none⟩ := by
      rcases h7.2 with ⟨e, h0⟩ | ⟨g, cap, cur, e, _⟩
      · rw [List.length_map] at h0; omega
      · injection e with e1; exact ⟨g, e1⟩
    obtain ⟨g, rfl⟩ := hvo
    have e0 := h7.at (j := p) (x := x) (by rw [List.getElem?_map, hp]; rfl)
    obtain ⟨n, hn⟩ : ∃ n, KV.length = n := ⟨_, rfl⟩
    rw [hn] at c5
    have p0 : (0 : Int) ≤ (p : Int) := by omega
    have p1 : (p : Int) < (n : Int) := by omega
    have p2 : ¬ (p : Int) < 0 := by omega
    clear h3 h4 h5 h6 h7 c0 c1 c2 c3 c4 cf hp hpl
    go_wp2
    refine bodyPost_ret (results_tmp2 rfl _ _ _) rfl ?_
    exact ⟨by rw [hl.out]; rfl, r1, HD.out, HF.out⟩
end Rd
end Go.Proofs.YtlfpkbjiofelkaaGreat

/-
  How the document's own dict turns in memory: a new table, one more key, another number.
-/
namespace Go.Proofs.YtlfpkbjiofelkaaGreat
open Go.RowKit Go.Shelf
set_option linter.unusedVariables false
set_option linter.unusedSimpArgs false
set_option maxRecDepth 100000
namespace Rd
variable {V : Type}
section
variable {w w' w1 W : World} {r r' : Roles} {b seed : Nat} {s s' : Dc.St ByteArray V} {KV KV' : List (ByteArray × Int)}
theorem info_bk : (Tryz.prog.info? 43).map (fun i => (i.zero, i.size, i.bytes)) = some (some (.slice none 0 0), 1, 24) := by kernel_rfl
theorem info_in : (Tryz.prog.info? 3).map (fun i => (i.zero, i.size, i.bytes)) = some (some (.int .i64 0), 1, 8) := by kernel_rfl
/-- a row of empty buckets is made -/
theorem make_tab (w : World) (r : Roles) (t n : Nat) (hn : n ≤ 5400000000000) :
    ∃ w', (Instr.makeSlice 39 (.int .i64 (n : Int)) (.int .i64 (n : Int))).run Tryz.prog w = .ok (.slice (some ⟨w.heap.size, 0, none⟩) n n) w' ∧ Tb (V := V) w' (role r (.slice (some ⟨w.heap.size, 0, none⟩) n n) (1 + t, 0)) t (.slice (some ⟨w.heap.size, 0, none⟩) n n) (List.replicate n []) ∧ Below w.heap.size w w' ∧ w.heap.size < w'.heap.size := by
  obtain ⟨i0, hi0, hz0, hz1, hz2⟩ := info_parts info_bk
  obtain ⟨w', h1, h2, h3⟩ := run_make_full (P := Tryz.prog) w 0 39 43 i0 (.slice none 0 0) 1 Tryz.underlying39 hi0 hz0 hz1 .i64 .i64 n (by rw [hz2]; omega) (by unfold maxLen; omega) (Nat.zero_le _)
  refine ⟨w', h1, ⟨_, by rw [List.length_replicate]; exact h2, fun k e => ?_, fun i c hc => ?_⟩, (Below.refl _ w).grown h3 (Nat.le_refl _) (fun k hk => by cases hk), own_lt h2 rfl⟩
  · unfold role; rw [if_pos e]
  · obtain ⟨hi, rfl⟩ : i < n ∧ c = [] := by
      rw [List.getElem?_replicate] at hc
      split at hc
      · cases hc; exact ⟨by assumption, rfl⟩
      · cases hc
    refine ⟨.slice none 0 0, ?_, ⟨rfl, .inl ⟨rfl, rfl⟩⟩, fun k e => by cases e⟩
    rw [Nat.mul_one]
    exact made_at hi
/-- the struct is written when something new was made -/
theorem RD.upd (h : RD w r b seed s KV) (hb : Below w.heap.size w w1) (hr : ∀ k, k < w.heap.size → r' k = r k) (hlt : ∀ k, r' k ≠ (0, 0) → k < w1.heap.size) {ov yv kv vv : Value} (ho : Only b w1 W) (hc : W.heap[b]? = some (.cells #[.int .u64 seed, ov, yv, .int .i64 s'.pos, kv, vv] 91 (0, 0))) (t0 : Tb w1 r' 0 ov s'.old) (t1 : Tb w1 r' 1 yv s'.young) (hk : Tx w1 kv (Dc.keys KV') ∧ ∀ k, kv.ownBlock = some k → r' k = (6, 0)) (hv : Ix w1 vv (KV'.map Prod.snd) ∧ ∀ k, vv.ownBlock = some k → r' k = (7, 0)) : RD W r' b seed s' KV' ∧ Fr w r W r' := by
  have hrb : r' b = (5, 0) := (hr b h.lt).trans h.2.1
  have hkk : ∀ k, (r' k).1 ≠ 5 → W.heap[k]? = w1.heap[k]? := fun k hn => ho.2.2 k (fun e => hn (by rw [e, hrb]))
  refine ⟨⟨fun k hr => by rw [ho.2.1]; exact hlt k hr, hrb, ov, yv, kv, vv, hc, t0.kept (fun k hl hr => ⟨hkk k (by rcases hr with e | e <;> rw [e] <;> decide), rfl⟩), t1.kept (fun k hl hr => ⟨hkk k (by rcases hr with e | e <;> rw [e] <;> decide), rfl⟩), ⟨own_kept hk.1 (fun k e => hkk k (by rw [hk.2 k e]; decide)), hk.2⟩, ⟨own_kept hv.1 (fun k e => hkk k (by rw [hv.2 k e]; decide)), hv.2⟩⟩, ?_⟩
  refine ⟨⟨ho.1.1.trans hb.os, ho.1.2.1.trans hb.tape, ho.1.2.2.trans hb.output⟩, by rw [ho.2.1]; exact hb.size, fun k hk0 hr0 => ⟨?_, (hr k hk0).trans hr0⟩⟩
  rw [ho.2.2 k (fun e => by rw [e, h.2.1] at hr0; cases hr0)]
  exact hb.block k hk0
theorem Tb.more {t : Nat} {tv : Value} {T : Dc.Tab ByteArray V} (h : Tb w r t tv T) (hb : Below w.heap.size w w1) (hr : ∀ k, k < w.heap.size → r' k = r k) : Tb w1 r' t tv T := h.kept (fun k hl _ => ⟨hb.block k hl, hr k hl⟩)
theorem role_new {u : Value} {x : Nat × Nat} (hu : ∀ k, u.ownBlock = some k → w.heap.size ≤ k) : ∀ k, k < w.heap.size → role r u x k = r k := fun k hk => by unfold role; rw [if_neg (fun e => by have := hu k e; omega)]
theorem role_lt {u : Value} {x : Nat × Nat} (h : ∀ k, r k ≠ (0, 0) → k < w1.heap.size) (hu : ∀ k, u.ownBlock = some k → k < w1.heap.size) : ∀ k, role r u x k ≠ (0, 0) → k < w1.heap.size := fun k hk => by
  unfold role at hk
  split at hk
  · rename_i e; exact hu k e
  · exact h k hk
/-- a new table for old -/
theorem RD.mk0 (h : RD w r b seed s KV) {n : Nat} (hy : s.young = []) (hp : s.pos = 0) (hT : Tb (V := V) w1 (role r (.slice (some ⟨w.heap.size, 0, none⟩) n n) (1, 0)) 0 (.slice (some ⟨w.heap.size, 0, none⟩) n n) (List.replicate n [])) (hb : Below w.heap.size w w1) (hl : w.heap.size < w1.heap.size) (hW : w1.setCell ⟨b, 1, none⟩ (.slice (some ⟨w.heap.size, 0, none⟩) n n) = W) :
    RD (V := V) W (role r (.slice (some ⟨w.heap.size, 0, none⟩) n n) (1, 0)) b seed { old := List.replicate n [], young := [], pos := 0 } KV ∧ Fr w r W (role r (.slice (some ⟨w.heap.size, 0, none⟩) n n) (1, 0)) := by
  obtain ⟨h1, h2, ov, yv, kv, vv, h3, h4, h5, h6, h7⟩ := id h
  have hr := role_new (w := w) (r := r) (u := .slice (some ⟨w.heap.size, 0, none⟩) n n) (x := (1, 0)) (fun k e => by cases e; exact Nat.le_refl _)
  have ho : Only b w1 W := by rw [← hW]; exact ⟨⟨rfl, rfl, rfl⟩, by simp [World.setCell], fun k hk => Below.heap_setCell _ _ _ _ hk⟩
  refine RD.upd (s' := { old := List.replicate n [], young := [], pos := 0 }) h hb hr (role_lt (fun k hk => Nat.lt_of_lt_of_le (h1 k hk) hb.size) (fun k e => by cases e; exact hl)) ho (ov := .slice (some ⟨w.heap.size, 0, none⟩) n n) (yv := yv) (kv := kv) (vv := vv) ?_ hT ?_ ⟨own_kept h6.1 (fun k e => hb.block k (own_lt h6.1 e)), fun k e => (hr k (own_lt h6.1 e)).trans (h6.2 k e)⟩ ⟨own_kept h7.1 (fun k e => hb.block k (own_lt h7.1 e)), fun k e => (hr k (own_lt h7.1 e)).trans (h7.2 k e)⟩
  · rw [← hW]
    have := cells_setCell (i := 1) (u := .slice (some ⟨w.heap.size, 0, none⟩) n n) ((hb.block b h.lt).trans h3)
    rw [hp] at this
    exact this
  · have := h5.more hb hr
    rw [hy] at this
    exact this
/-- a new table for young -/
theorem RD.mk1 (h : RD w r b seed s KV) {n : Nat} (hT : Tb (V := V) w1 (role r (.slice (some ⟨w.heap.size, 0, none⟩) n n) (2, 0)) 1 (.slice (some ⟨w.heap.size, 0, none⟩) n n) (List.replicate n [])) (hb : Below w.heap.size w w1) (hl : w.heap.size < w1.heap.size) (hW : (w1.setCell ⟨b, 2, none⟩ (.slice (some ⟨w.heap.size, 0, none⟩) n n)).setCell ⟨b, 3, none⟩ (.int .i64 0) = W) :
    RD W (role r (.slice (some ⟨w.heap.size, 0, none⟩) n n) (2, 0)) b seed { s with young := List.replicate n [], pos := 0 } KV ∧ Fr w r W (role r (.slice (some ⟨w.heap.size, 0, none⟩) n n) (2, 0)) := by
  obtain ⟨h1, h2, ov, yv, kv, vv, h3, h4, h5, h6, h7⟩ := id h
  have hr := role_new (w := w) (r := r) (u := .slice (some ⟨w.heap.size, 0, none⟩) n n) (x := (2, 0)) (fun k e => by cases e; exact Nat.le_refl _)
  have ho : Only b w1 W := by rw [← hW]; exact ⟨⟨rfl, rfl, rfl⟩, by simp [World.setCell], fun k hk => by rw [Below.heap_setCell _ _ _ _ hk, Below.heap_setCell _ _ _ _ hk]⟩
  exact RD.upd (s' := { s with young := List.replicate n [], pos := 0 }) h hb hr (role_lt (fun k hk => Nat.lt_of_lt_of_le (h1 k hk) hb.size) (fun k e => by cases e; exact hl)) ho (ov := ov) (yv := .slice (some ⟨w.heap.size, 0, none⟩) n n) (kv := kv) (vv := vv) (by rw [← hW]; exact cells_setCell (cells_setCell ((hb.block b h.lt).trans h3))) (h4.more hb hr) hT ⟨own_kept h6.1 (fun k e => hb.block k (own_lt h6.1 e)), fun k e => (hr k (own_lt h6.1 e)).trans (h6.2 k e)⟩ ⟨own_kept h7.1 (fun k e => hb.block k (own_lt h7.1 e)), fun k e => (hr k (own_lt h7.1 e)).trans (h7.2 k e)⟩
/-- the keys and their numbers are others -/
theorem RD.kvs (h : RD w r b seed s KV) {ov yv kv0 vv0 kv vv : Value} (hc0 : w.heap[b]? = some (.cells #[.int .u64 seed, ov, yv, .int .i64 s.pos, kv0, vv0] 91 (0, 0))) (hos : W.os = w.os ∧ W.tape = w.tape ∧ W.output = w.output) (hs : w.heap.size ≤ W.heap.size) (hc : W.heap[b]? = some (.cells #[.int .u64 seed, ov, yv, .int .i64 s.pos, kv, vv] 91 (0, 0)))
    (hk : ∀ k, k < w.heap.size → (r k).1 ≠ 5 → (r k).1 ≠ 6 → (r k).1 ≠ 7 → W.heap[k]? = w.heap[k]?) (hkv : Tx W kv (Dc.keys KV')) (hkb : ∀ k, kv.ownBlock = some k → r k = (6, 0) ∨ w.heap.size ≤ k) (hvv : Ix W vv (KV'.map Prod.snd)) (hvb : ∀ k, vv.ownBlock = some k → r k = (7, 0) ∨ w.heap.size ≤ k) (hne : ∀ k, kv.ownBlock = some k → vv.ownBlock ≠ some k) :
    RD W (role (role r kv (6, 0)) vv (7, 0)) b seed s KV' ∧ Fr w r W (role (role r kv (6, 0)) vv (7, 0)) := by
  obtain ⟨h1, h2, ov', yv', kv', vv', h3, h4, h5, h6, h7⟩ := id h
  rw [h3] at hc0
  cases hc0
  have hr : ∀ k, k < w.heap.size → role (role r kv (6, 0)) vv (7, 0) k = r k := fun k hl => by
    unfold role
    split
    · rename_i e; rcases hvb k e with h' | h'
      · exact h'.symm
      · omega
    · split
      · rename_i e; rcases hkb k e with h' | h'
        · exact h'.symm
        · omega
      · rfl
  refine ⟨⟨fun k hk0 => ?_, (hr b h.lt).trans h2, ov, yv, kv, vv, hc, h4.kept (fun k hl hr0 => ⟨hk k hl (by rcases hr0 with e | e <;> rw [e] <;> decide) (by rcases hr0 with e | e <;> rw [e] <;> decide) (by rcases hr0 with e | e <;> rw [e] <;> decide), hr k hl⟩), h5.kept (fun k hl hr0 => ⟨hk k hl (by rcases hr0 with e | e <;> rw [e] <;> decide) (by rcases hr0 with e | e <;> rw [e] <;> decide) (by rcases hr0 with e | e <;> rw [e] <;> decide), hr k hl⟩), ⟨hkv, fun k e => ?_⟩, ⟨hvv, fun k e => ?_⟩⟩, hos, hs, fun k hl hr0 => ⟨hk k hl (by rw [hr0]; decide) (by rw [hr0]; decide) (by rw [hr0]; decide), (hr k hl).trans hr0⟩⟩
  · unfold role at hk0
    split at hk0
    · rename_i e; exact own_lt hvv e
    · split at hk0
      · rename_i e; exact own_lt hkv e
      · exact Nat.lt_of_lt_of_le (h1 k hk0) hs
  · unfold role
    rw [if_neg (hne k e), if_pos e]
  · unfold role
    rw [if_pos e]
/-- a number alone is another one -/
theorem RD.setv (h : RD w r b seed s KV) {g n cap p : Nat} {key : ByteArray} {x v : Int} (hv : w.cell? ⟨b, 5, none⟩ = some (.slice (some ⟨g, 0, none⟩) n cap)) (hp : KV[p]? = some (key, x)) (hW : w.setCell ⟨g, p, none⟩ (.int .i64 v) = W) : RD W r b seed s (KV.set p (key, v)) ∧ Fr w r W r ∧ ∀ k, w.frozen? ⟨g, k, none⟩ = false := by
  obtain ⟨h1, h2, ov, yv, kv, vv, h3, h4, h5, h6, h7⟩ := id h
  obtain ⟨c0, c1, c2, c3, c4, c5, _⟩ := six h3
  rw [c5] at hv
  cases hv
  have hrg := h7.2 g rfl
  have hlp := (List.getElem?_eq_some_iff.1 hp).1
  have hk : ∀ k, (r k).1 ≠ 7 → W.heap[k]? = w.heap[k]? := fun k hn => by rw [← hW]; exact Below.heap_setCell _ _ _ _ (fun e => hn (by rw [show k = g from e, hrg]))
  have hkeys : Dc.keys (KV.set p (key, v)) = Dc.keys KV := by
    unfold Dc.keys
    rw [List.map_set]
    have : (KV.map Prod.fst)[p]? = some key := by rw [List.getElem?_map, hp]; rfl
    obtain ⟨hl, he⟩ := List.getElem?_eq_some_iff.1 this
    show (KV.map Prod.fst).set p key = _
    conv => lhs; rw [← he]
    exact List.set_getElem_self hl
  have hs : W.heap.size = w.heap.size := by rw [← hW]; simp [World.setCell]
  rcases h7.1.2 with ⟨e, _⟩ | ⟨g', cap', cur, e, _, hh, hc, hm, hsz, ht⟩
  · cases e
  · cases e
    refine ⟨⟨fun k hr => by rw [hs]; exact h1 k hr, h2, ov, yv, kv, _, (hk b (by rw [h2]; decide)).trans h3, h4.kept (fun k hl hr => ⟨hk k (by rcases hr with e | e <;> rw [e] <;> decide), rfl⟩), h5.kept (fun k hl hr => ⟨hk k (by rcases hr with e | e <;> rw [e] <;> decide), rfl⟩), ⟨?_, h6.2⟩, ⟨?_, h7.2⟩⟩, ⟨by rw [← hW]; exact ⟨rfl, rfl, rfl⟩, by rw [hs]; exact Nat.le_refl _, fun k hl hr => ⟨hk k (by rw [hr]; decide), hr⟩⟩, fun k => by simp [World.frozen?, hh]⟩
    · rw [hkeys]; exact own_kept h6.1 (fun k e => hk k (by rw [h6.2 k e]; decide))
    · refine ⟨by simp, .inr ⟨g, cap, _, by simp, Nat.zero_le _, by rw [← hW]; exact cells_setCell hh, by simpa using hc, hm, by simpa using hsz, ?_⟩⟩
      have := take_set (i := p) (u := Value.int .i64 v) ht
      simp only [List.length_map, List.length_set, List.map_set] at this ⊢
      exact this
theorem alter_keys (k : ByteArray) (v : V) (c : List (ByteArray × V)) : Dc.keys (Dc.alter k v c) = Dc.keys c := by
  unfold Dc.keys Dc.alter
  rw [List.map_map]
  refine List.map_congr_left (fun e _ => ?_)
  show (if e.1 = k then (e.1, v) else e).1 = e.1
  split <;> rfl
theorem Tb.alter {t : Nat} {tv : Value} {T : Dc.Tab ByteArray V} (h : Tb w r t tv T) (k : ByteArray) (v : V) : Tb w r t tv (T.map (Dc.alter k v)) := by
  obtain ⟨vs, h1, h2, h3⟩ := h
  refine ⟨vs, by rw [List.length_map]; exact h1, h2, fun i c hc => ?_⟩
  rw [List.getElem?_map] at hc
  cases hT : T[i]? with
  | none => rw [hT] at hc; cases hc
  | some c0 =>
    rw [hT] at hc
    cases hc
    obtain ⟨u, e1, e2, e3⟩ := h3 i c0 hT
    exact ⟨u, e1, Chn.of (by rw [alter_keys]; exact e2.tx), e3⟩
/-- another value under a key leaves the document's own as it is -/
theorem RD.alter (h : RD w r b seed s KV) (k : ByteArray) (v : V) : RD w r b seed (Dc.every (Dc.alter k v) s) KV := by
  obtain ⟨h1, h2, ov, yv, kv, vv, h3, h4, h5, h6, h7⟩ := h
  exact ⟨h1, h2, ov, yv, kv, vv, h3, h4.alter k v, h5.alter k v, h6, h7⟩
end
end Rd
end Go.Proofs.YtlfpkbjiofelkaaGreat

namespace Go.Proofs.YtlfpkbjiofelkaaGreat
open Go.RowKit Go.Shelf
set_option linter.unusedVariables false
set_option linter.unusedSimpArgs false
set_option maxRecDepth 100000
namespace Rd
variable {V : Type}
theorem one_cells {w : World} {g : Nat} {u : Value} {t : TypeId} (h : w.heap[g]? = some (.cells #[u] t (0, 0))) : ∀ j x, [u][j]? = some x → w.cell? ((⟨g, 0, none⟩ : Addr).add j) = some x := fun j x hj => by
  cases j with
  | zero =>
    cases hj
    rw [show (⟨g, 0, none⟩ : Addr).add 0 = ⟨g, 0, none⟩ by unfold Addr.add; split <;> simp_all]
    simp [World.cell?, h]
  | succ j => simp at hj
theorem tx_app (w : World) (u : Value) (l : List ByteArray) (x : ByteArray) (g : Nat) (h : Tx w u l) (hg : w.heap[g]? = some (.cells #[.string x] 9 (0, 0))) (hn : l.length ≤ 5000000000000) :
    ∃ o m c W, (Builtin.append_ #[43, 43] 43 #[u, .slice (some ⟨g, 0, none⟩) 1 1]).run Tryz.prog w = .ok (.slice o m c) W ∧ Tx W (.slice o m c) (l ++ [x]) ∧ w.grownBy W u.ownBlock ∧ ((Value.slice o m c).ownBlock = u.ownBlock ∨ (Value.slice o m c).ownBlock = some w.heap.size) := by
  obtain ⟨i0, hi0, hz0, hz1, hz2⟩ := info_parts info_st
  have uT := Tryz.underlying43
  obtain ⟨v', W, r1, r2, r3, r4, r5⟩ := run_append_own_at (P := Tryz.prog) w 0 43 43 9 i0 _ 1 16 uT hi0 hz0 hz1 hz2 (by simp [Value.cells]) (by decide) u l.length (txs l) h ⟨g, 0, none⟩ 1 1 [.string x] rfl (one_cells hg) (fun u hu => by simp at hu; subst hu; rfl) (by unfold maxLen; omega) (by omega) (Nat.zero_le _)
  have hr : Tx W v' (l ++ [x]) := by unfold Tx; rw [List.length_append, txs_app]; exact r2
  obtain ⟨o, c, e, _⟩ := hr.form
  subst e
  exact ⟨o, _, c, W, r1, hr, r3, r5⟩
theorem ix_app (w : World) (u : Value) (l : List Int) (x : Int) (g : Nat) (h : Ix w u l) (hg : w.heap[g]? = some (.cells #[.int .i64 x] 3 (0, 0))) (hn : l.length ≤ 5000000000000) :
    ∃ o m c W, (Builtin.append_ #[89, 89] 89 #[u, .slice (some ⟨g, 0, none⟩) 1 1]).run Tryz.prog w = .ok (.slice o m c) W ∧ Ix W (.slice o m c) (l ++ [x]) ∧ w.grownBy W u.ownBlock ∧ ((Value.slice o m c).ownBlock = u.ownBlock ∨ (Value.slice o m c).ownBlock = some w.heap.size) := by
  obtain ⟨i0, hi0, hz0, hz1, hz2⟩ := info_parts info_in
  have uT := Tryz.underlying89
  obtain ⟨v', W, r1, r2, r3, r4, r5⟩ := run_append_own_at (P := Tryz.prog) w 0 89 89 3 i0 _ 1 8 uT hi0 hz0 hz1 hz2 (by simp [Value.cells]) (by decide) u l.length (l.map (Value.int .i64)) h ⟨g, 0, none⟩ 1 1 [.int .i64 x] rfl (one_cells hg) (fun u hu => by simp at hu; subst hu; rfl) (by unfold maxLen; omega) (by omega) (Nat.zero_le _)
  have hr : Ix W v' (l ++ [x]) := by unfold Ix; rw [List.length_append, List.map_append]; exact r2
  obtain ⟨o, c, e⟩ := hr.slice
  subst e
  exact ⟨o, _, c, W, r1, hr, r3, r5⟩
theorem RD.app {w : World} {r : Roles} {b seed n : Nat} {s : Dc.St ByteArray V} {KV : List (ByteArray × Int)} (h : RD w r b seed s KV) (key : ByteArray) (v : Int) (hn : KV.length = n) (hl : n ≤ 2600000000000) {ko vo : Option Addr} {kc vc : Nat} (c4 : w.cell? ⟨b, 4, none⟩ = some (.slice ko n kc)) (c5 : w.cell? ⟨b, 5, none⟩ = some (.slice vo n vc)) :
    ∃ uo un uc W11, (Builtin.append_ #[43, 43] 43 #[.slice ko n kc, .slice (some ⟨w.heap.size, 0, none⟩) 1 1]).run Tryz.prog (w.alloc (.cells #[.string key] 9)) = .ok (.slice uo un uc) W11 ∧ (W11.cell? ⟨b, 4, none⟩ = some (.slice ko n kc) ∧ ∀ i, W11.frozen? ⟨b, i, none⟩ = false) ∧
      ∀ W12, W11.setCell ⟨b, 4, none⟩ (.slice uo un uc) = W12 → W12.cell? ⟨b, 5, none⟩ = some (.slice vo n vc) ∧ ∃ xo xn xc W14, (Builtin.append_ #[89, 89] 89 #[.slice vo n vc, .slice (some ⟨W12.heap.size, 0, none⟩) 1 1]).run Tryz.prog (W12.alloc (.cells #[.int .i64 v] 3)) = .ok (.slice xo xn xc) W14 ∧ (W14.cell? ⟨b, 5, none⟩ = some (.slice vo n vc) ∧ ∀ i, W14.frozen? ⟨b, i, none⟩ = false) ∧
        ∀ W15, W14.setCell ⟨b, 5, none⟩ (.slice xo xn xc) = W15 → ∃ r', RD W15 r' b seed s (KV ++ [(key, v)]) ∧ Fr w r W15 r' := by
  obtain ⟨h1, h2, ov, yv, kv, vv, h3, h4, h5, h6, h7⟩ := id h
  obtain ⟨d0, d1, d2, d3, d4, d5, _⟩ := six h3
  rw [d4] at c4
  cases c4
  rw [d5] at c5
  cases c5
  obtain ⟨W10, hW10⟩ : ∃ x, w.alloc (.cells #[.string key] 9) = x := ⟨_, rfl⟩
  have b10 : Below w.heap.size w W10 := by rw [← hW10]; exact (Below.refl _ w).alloc (Nat.le_refl _) _
  have g10 : W10.heap[w.heap.size]? = some (.cells #[.string key] 9 (0, 0)) := by rw [← hW10]; exact heap_alloc_new _ _
  have s10 : W10.heap.size = w.heap.size + 1 := by rw [← hW10]; simp
  obtain ⟨uo, un, uc, W11, a1, a2, a3, a4⟩ := tx_app W10 _ (Dc.keys KV) key w.heap.size (own_kept h6.1 (fun k e => b10.block k (own_lt h6.1 e))) g10 (by simp [Dc.keys]; omega)
  have hbl := h.lt
  -- the blocks of the two rows, and b
  have kb : ∀ k, (Value.slice ko n kc).ownBlock = some k → r k = (6, 0) := h6.2
  have vb : ∀ k, (Value.slice vo n vc).ownBlock = some k → r k = (7, 0) := h7.2
  have e11 : ∀ k, k < w.heap.size → r k ≠ (6, 0) → W11.heap[k]? = w.heap[k]? := fun k hk hr => (a3.block k (by omega) (fun e => hr (kb k e.symm))).trans (b10.block k hk)
  have g11 := (e11 b hbl (by rw [h2]; simp)).trans h3
  obtain ⟨_, _, _, _, q4, q5, qf⟩ := six g11
  rw [hW10]
  refine ⟨uo, un, uc, W11, a1, ⟨q4, qf⟩, fun W12 hW12 => ?_⟩
  have o12 : Only b W11 W12 := by rw [← hW12]; exact ⟨⟨rfl, rfl, rfl⟩, by simp [World.setCell], fun k hk => Below.heap_setCell _ _ _ _ hk⟩
  have g12 : W12.heap[b]? = some (.cells #[.int .u64 seed, ov, yv, .int .i64 s.pos, .slice uo un uc, .slice vo n vc] 91 (0, 0)) := by rw [← hW12]; exact cells_setCell (i := 4) (u := .slice uo un uc) g11
  obtain ⟨_, _, _, _, p4, p5, pf⟩ := six (show W12.heap[b]? = some (.cells #[.int .u64 seed, ov, yv, .int .i64 s.pos, .slice uo un uc, .slice vo n vc] 91 (0, 0)) from g12)
  refine ⟨p5, ?_⟩
  obtain ⟨W13, hW13⟩ : ∃ x, W12.alloc (.cells #[.int .i64 v] 3) = x := ⟨_, rfl⟩
  have b13 : Below W12.heap.size W12 W13 := by rw [← hW13]; exact (Below.refl _ W12).alloc (Nat.le_refl _) _
  have g13 : W13.heap[W12.heap.size]? = some (.cells #[.int .i64 v] 3 (0, 0)) := by rw [← hW13]; exact heap_alloc_new _ _
  have s13 : W13.heap.size = W12.heap.size + 1 := by rw [← hW13]; simp
  have s11 := a3.size
  have s12 := o12.2.1
  have e12 : ∀ k, k < w.heap.size → r k ≠ (6, 0) → k ≠ b → W12.heap[k]? = w.heap[k]? := fun k hk hr hb => (o12.2.2 k hb).trans (e11 k hk hr)
  have i12 : Ix W12 (.slice vo n vc) (KV.map Prod.snd) := own_kept h7.1 (fun k e => e12 k (own_lt h7.1 e) (by rw [vb k e]; simp) (fun e' => by have := vb k e; rw [e', h2] at this; cases this))
  obtain ⟨xo, xn, xc, W14, a5, a6, a7, a8⟩ := ix_app W13 _ (KV.map Prod.snd) v W12.heap.size (own_kept i12 (fun k e => b13.block k (own_lt i12 e))) g13 (by rw [List.length_map]; omega)
  rw [hW13]
  have e14 : ∀ k, k < W12.heap.size → (Value.slice vo n vc).ownBlock ≠ some k → W14.heap[k]? = W12.heap[k]? := fun k hk hr => (a7.block k (by omega) (fun e => hr e.symm)).trans (b13.block k hk)
  have g14 : W14.heap[b]? = some (.cells #[.int .u64 seed, ov, yv, .int .i64 s.pos, .slice uo un uc, .slice vo n vc] 91 (0, 0)) := (e14 b (by omega) (fun e => by have := vb b e; rw [h2] at this; cases this)).trans g12
  obtain ⟨_, _, _, _, t4, t5, tf⟩ := six g14
  refine ⟨xo, xn, xc, W14, a5, ⟨t5, tf⟩, fun W15 hW15 => ?_⟩
  have o15 : Only b W14 W15 := by rw [← hW15]; exact ⟨⟨rfl, rfl, rfl⟩, by simp [World.setCell], fun k hk => Below.heap_setCell _ _ _ _ hk⟩
  have s14 := a7.size
  have s15 := o15.2.1
  have ub : ∀ k, (Value.slice uo un uc).ownBlock = some k → r k = (6, 0) ∨ w.heap.size ≤ k := fun k e => by
    rcases a4 with e' | e'
    · exact .inl (kb k (by rw [← e']; exact e))
    · rw [e'] at e; cases e; exact .inr (by omega)
  have xb : ∀ k, (Value.slice xo xn xc).ownBlock = some k → r k = (7, 0) ∨ W12.heap.size ≤ k := fun k e => by
    rcases a8 with e' | e'
    · exact .inl (vb k (by rw [← e']; exact e))
    · rw [e'] at e; cases e; exact .inr (by omega)
  have ubl : ∀ k, (Value.slice uo un uc).ownBlock = some k → k < W12.heap.size ∧ k ≠ b ∧ (Value.slice vo n vc).ownBlock ≠ some k := fun k e => by
    have hl := own_lt a2 e
    refine ⟨by omega, fun e' => ?_, fun e' => ?_⟩
    · rcases ub k e with h' | h'
      · rw [e', h2] at h'; cases h'
      · omega
    · have hv := vb k e'
      rcases ub k e with h' | h'
      · rw [hv] at h'; cases h'
      · have := own_lt h7.1 e'; omega
  have u12 : Tx W12 (.slice uo un uc) (Dc.keys KV ++ [key]) := own_kept a2 (fun k e => o12.2.2 k (ubl k e).2.1)
  have u15 : Tx W15 (.slice uo un uc) (Dc.keys (KV ++ [(key, v)])) := by
    rw [show Dc.keys (KV ++ [(key, v)]) = Dc.keys KV ++ [key] by simp [Dc.keys]]
    exact own_kept u12 (fun k e => (o15.2.2 k (ubl k e).2.1).trans (e14 k (ubl k e).1 (ubl k e).2.2))
  have xnb : ∀ k, (Value.slice xo xn xc).ownBlock = some k → k ≠ b := fun k e e' => by
    rcases xb k e with h' | h'
    · rw [e', h2] at h'; cases h'
    · omega
  have x15 : Ix W15 (.slice xo xn xc) ((KV ++ [(key, v)]).map Prod.snd) := by
    rw [List.map_append]
    exact own_kept a6 (fun k e => o15.2.2 k (xnb k e))
  refine ⟨_, RD.kvs h h3 ⟨o15.1.1.trans (a7.os.trans (b13.os.trans (o12.1.1.trans (a3.os.trans b10.os)))), o15.1.2.1.trans (a7.tape.trans (b13.tape.trans (o12.1.2.1.trans (a3.tape.trans b10.tape)))), o15.1.2.2.trans (a7.output.trans (b13.output.trans (o12.1.2.2.trans (a3.output.trans b10.output))))⟩ (by omega) (by rw [← hW15]; exact cells_setCell (i := 5) (u := .slice xo xn xc) g14) (fun k hk n5 n6 n7 => ?_) u15 ub x15 (fun k e => (xb k e).imp id (fun h' => by omega)) (fun k e e' => ?_)⟩
  · have hkb : k ≠ b := fun e => n5 (by rw [e, h2])
    rw [o15.2.2 k hkb, e14 k (by omega) (fun e => n7 (by rw [vb k e])), e12 k hk (fun e => n6 (by rw [e])) hkb]
  · have := (ubl k e).1
    rcases xb k e' with h' | h'
    · rcases ub k e with h'' | h''
      · rw [h'] at h''; cases h''
      · have hz : k < w.heap.size := h1 k (by rw [h']; simp)
        omega
    · omega
end Rd
end Go.Proofs.YtlfpkbjiofelkaaGreat
