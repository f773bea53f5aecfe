/-
  Contracts over this program: Tables, Bucket and open of the document's own dict.
-/
import Derived.Test.YtlfpkbjiofelkaaGreatRd9
namespace Go.Proofs.YtlfpkbjiofelkaaGreat
open Go.RowKit Go.Shelf
set_option linter.unusedVariables false
set_option linter.unusedSimpArgs false
set_option maxRecDepth 100000
namespace Rd
variable {V : Type}
/-- a row of buckets that are told, not owned -/
def Op (w : World) (u : Value) (T : Dc.Tab ByteArray V) : Prop := ∃ vs : List Value, w.ownsRow 0 43 1 u T.length vs ∧ ∀ (i : Nat) (c : List (ByteArray × V)), T[i]? = some c → ∃ v, vs[i]? = some v ∧ Chn w v c
theorem Tb.op {w : World} {r : Roles} {t : Nat} {tv : Value} {T : Dc.Tab ByteArray V} (h : Tb w r t tv T) : Op w tv T := by
  obtain ⟨vs, h1, _, h3⟩ := h
  exact ⟨vs, h1, fun i c hc => by obtain ⟨v, e1, e2, _⟩ := h3 i c hc; exact ⟨v, e1, e2⟩⟩
theorem Op.bel {w w' : World} {u : Value} {T : Dc.Tab ByteArray V} (h : Op w u T) (hb : Below w.heap.size w w') : Op w' u T := by
  obtain ⟨vs, h1, h3⟩ := h
  refine ⟨vs, own_kept h1 (fun k e => hb.block k (own_lt h1 e)), fun i c hc => ?_⟩
  obtain ⟨v, e1, e2⟩ := h3 i c hc
  exact ⟨v, e1, own_kept e2 (fun k e => hb.block k (own_lt e2 e))⟩
theorem Op.slice {w : World} {u : Value} {T : Dc.Tab ByteArray V} (h : Op w u T) : ∃ ao cap, u = .slice ao T.length cap ∧ (0 < T.length → ∃ g, ao = some ⟨g, 0, none⟩) := by
  obtain ⟨vs, h1, _⟩ := h
  rcases h1.2 with ⟨rfl, h0⟩ | ⟨g, cap, cur, rfl, _⟩
  · exact ⟨none, 0, by rw [h0], fun hh => by omega⟩
  · exact ⟨_, _, rfl, fun _ => ⟨_, rfl⟩⟩
theorem Op.at {w : World} {g n cap : Nat} {T : Dc.Tab ByteArray V} {i : Nat} {c : List (ByteArray × V)} (h : Op w (.slice (some ⟨g, 0, none⟩) n cap) T) (hi : T[i]? = some c) : ∃ v, w.cell? ⟨g, i, none⟩ = some v ∧ Chn w v c := by
  obtain ⟨vs, h1, h3⟩ := h
  obtain ⟨v, e1, e2⟩ := h3 i c hi
  refine ⟨v, ?_, e2⟩
  have := h1.cells (g := g) rfl i v e1
  rwa [show (⟨g, 0, none⟩ : Addr).add i = ⟨g, i, none⟩ by unfold Addr.add; split <;> simp_all] at this
/-- a row of told buckets of one's own, made since w0 -/
def OpM (w0 w : World) (u : Value) (T : Dc.Tab ByteArray V) : Prop := Op w u T ∧ (∀ k, u.ownBlock = some k → w0.heap.size ≤ k) ∧ Below w0.heap.size w0 w
theorem chn_one {w : World} {v : Value} {c : List (ByteArray × V)} (h : Chn w v c) : v.oneCell' = true := by
  obtain ⟨o, c, e, _⟩ := h.tx.form
  rw [e]; rfl
theorem op_grow {w W : World} {u u' : Value} {T T2 : Dc.Tab ByteArray V} {vs vs2 : List Value} (h1 : w.ownsRow 0 43 1 u T.length vs) (h3 : ∀ (i : Nat) (c : List (ByteArray × V)), T[i]? = some c → ∃ v, vs[i]? = some v ∧ Chn w v c) (h4 : ∀ (i : Nat) (c : List (ByteArray × V)), T2[i]? = some c → ∃ v, vs2[i]? = some v ∧ Chn w v c) (hg : w.grownBy W u.ownBlock) (hr : W.ownsRow 0 43 1 u' (T.length + T2.length) (vs ++ vs2)) : Op W u' (T ++ T2) := by
  have hl : vs.length = T.length := by have := h1.1; omega
  refine ⟨vs ++ vs2, by rw [List.length_append]; exact hr, fun i c hc => ?_⟩
  have kp : ∀ v c, Chn w v c → Chn (V := V) W v c := fun v c h => own_kept h (fun k e => hg.block k (own_lt h e) (fun e' => own_apart (e1 := 43) (e2 := 9) h1 h (by decide) e'.symm e))
  rcases Nat.lt_or_ge i T.length with hi | hi
  · rw [List.getElem?_append_left hi] at hc
    obtain ⟨v, e1, e2⟩ := h3 i c hc
    exact ⟨v, by rw [List.getElem?_append_left (by omega)]; exact e1, kp v c e2⟩
  · rw [List.getElem?_append_right hi] at hc
    obtain ⟨v, e1, e2⟩ := h4 _ c hc
    exact ⟨v, by rw [List.getElem?_append_right (by omega), hl]; exact e1, kp v c e2⟩
theorem OpM.fin {w0 w W : World} {u u' : Value} {T T' : Dc.Tab ByteArray V} (h : OpM w0 w u T) (hg : w.grownBy W u.ownBlock) (ho : u'.ownBlock = u.ownBlock ∨ u'.ownBlock = some w.heap.size) (hO : Op W u' T') : OpM w0 W u' T' := by
  refine ⟨hO, fun k hk => ?_, h.2.2.grown hg h.2.2.size h.2.1⟩
  rcases ho with e | e
  · exact h.2.1 k (by rw [← e]; exact hk)
  · rw [e] at hk; cases hk; exact h.2.2.size
/-- one more told bucket -/
theorem op_push {w0 w : World} {u v : Value} {T : Dc.Tab ByteArray V} {c : List (ByteArray × V)} {g : Nat} (h : OpM w0 w u T) (hc : Chn w v c) (hg : w.heap[g]? = some (.cells #[v] 43 (0, 0))) (hn : T.length ≤ 5400000000000) :
    ∃ o m cc W, (Builtin.append_ #[39, 39] 39 #[u, .slice (some ⟨g, 0, none⟩) 1 1]).run Tryz.prog w = .ok (.slice o m cc) W ∧ OpM w0 W (.slice o m cc) (T ++ [c]) := by
  obtain ⟨i0, hi0, hz0, hz1, hz2⟩ := info_parts info_bk
  have uT := Tryz.underlying39
  obtain ⟨vs, h1, h3⟩ := id h.1
  obtain ⟨v', W, r1, r2, r3, r4, r5⟩ := run_append_own_at (P := Tryz.prog) w 0 39 39 43 i0 _ 1 24 uT hi0 hz0 hz1 hz2 (by simp [Value.cells]) (by decide) u T.length vs h1 ⟨g, 0, none⟩ 1 1 [v] rfl (one_cells hg) (fun u hu => by simp at hu; subst hu; exact chn_one hc) (by unfold maxLen; omega) (by omega) (Nat.zero_le _)
  have hO : Op W v' (T ++ [c]) := op_grow h1 h3 (T2 := [c]) (vs2 := [v]) (fun i c' hc' => by cases i with | zero => cases hc'; exact ⟨v, rfl, hc⟩ | succ i => simp at hc') r3 r2
  have hM := h.fin r3 r5 hO
  obtain ⟨o, cc, e, _⟩ := hO.slice
  subst e
  exact ⟨o, _, cc, W, r1, hM⟩
/-- all buckets of another row behind -/
theorem op_app {w0 w : World} {u y : Value} {T T2 : Dc.Tab ByteArray V} (h : OpM w0 w u T) (h2 : Op w y T2) (hn : T.length + T2.length ≤ 5400000000000) :
    ∃ o m cc W, (Builtin.append_ #[39, 39] 39 #[u, y]).run Tryz.prog w = .ok (.slice o m cc) W ∧ OpM w0 W (.slice o m cc) (T ++ T2) := by
  obtain ⟨i0, hi0, hz0, hz1, hz2⟩ := info_parts info_bk
  have uT := Tryz.underlying39
  obtain ⟨vs, h1, h3⟩ := id h.1
  obtain ⟨vs2, g1, g3⟩ := h2
  rcases g1.2 with ⟨rfl, h0⟩ | ⟨g, cap, cur, rfl, _⟩
  · have e : T2 = [] := List.length_eq_zero_iff.1 h0
    subst e
    obtain ⟨o, cc, e, _⟩ := h.1.slice
    subst e
    exact ⟨o, _, cc, w, run_append_owned_none (P := Tryz.prog) (w := w) 0 _ _ 43 i0 1 uT hi0 _ T.length _ h1, by rw [List.append_nil]; exact h⟩
  · obtain ⟨v', W, r1, r2, r3, r4, r5⟩ := run_append_own_at (P := Tryz.prog) w 0 39 39 43 i0 _ 1 24 uT hi0 hz0 hz1 hz2 (by simp [Value.cells]) (by decide) u T.length vs h1 ⟨g, 0, none⟩ T2.length cap vs2 (by have := g1.1; omega) (fun j x hj => World.ownsRow.cells g1 (g := g) rfl j x hj) (fun x hx => by
        obtain ⟨i, hi⟩ := List.mem_iff_getElem?.1 hx
        have hil := (List.getElem?_eq_some_iff.1 hi).1
        have hl := g1.1
        obtain ⟨c, hc⟩ : ∃ c, T2[i]? = some c := ⟨_, List.getElem?_eq_getElem (by omega)⟩
        obtain ⟨v, e1, e2⟩ := g3 i c hc
        rw [hi] at e1
        cases e1
        exact chn_one e2) (by unfold maxLen; omega) (by omega) (Nat.zero_le _)
    have hO : Op W v' (T ++ T2) := op_grow h1 h3 g3 r3 r2
    have hM := h.fin r3 r5 hO
    obtain ⟨o, cc, e, _⟩ := hO.slice
    subst e
    exact ⟨o, _, cc, W, r1, hM⟩
set_option maxHeartbeats 1000000 in
theorem tables_any {w : World} {r : Roles} {b seed : Nat} {s : Dc.St ByteArray V} {KV : List (ByteArray × Int)} (hD : RD w r b seed s KV) :
    Calls Tryz.prog 58 #[.pointer (some ⟨b, 0, none⟩)] w fun e w' => (∃ ov yv, e = .returned (.tuple #[ov, yv]) ∧ Tb w' r 0 ov s.old ∧ Tb w' r 1 yv s.young) ∧ RD w' r b seed s KV ∧ Below w.heap.size w w' := by
  obtain ⟨ao, ca, bo, cb, ko, kc, vo, vc, h3, h4, h5, h6, h7⟩ := hD.parts
  obtain ⟨c0, c1, c2, c3, c4, c5, cf⟩ := six h3
  have H4 := keep h4
  have H5 := keep h5
  have HD := keep hD
  clear hD h3 h4 h5 h6 h7 c0 c3 c4 c5 cf
  obtain ⟨n0, hn0⟩ : ∃ n, s.old.length = n := ⟨_, rfl⟩
  obtain ⟨n1, hn1⟩ : ∃ n, s.young.length = n := ⟨_, rfl⟩
  rw [hn0] at c1 H4
  rw [hn1] at c2 H5
  clear hn0 hn1
  go_enter Tryz.func58, Tryz.ntmps58
  go_wp2_with fail
  go_quiet (fail)
  have HB : Kept (Below w.heap.size w (w.drewN nq)) := below_drewN (Below.refl _ _) nq
  go_wp2
  refine bodyPost_ret (results_tmp2 rfl _ _ _) rfl ?_
  exact ⟨⟨_, _, rfl, H4.out.more HB.out (fun _ _ => rfl), H5.out.more HB.out (fun _ _ => rfl)⟩, HD.out.below HB.out, HB.out⟩
/-- what Bucket tells -/
def bkt (s : Dc.St ByteArray V) (t i : Int) : List ByteArray := if t = 0 ∧ 0 ≤ i then Dc.keys ((s.old[i.toNat]?).getD []) else if t = 1 ∧ 0 ≤ i then Dc.keys ((s.young[i.toNat]?).getD []) else []
end Rd
end Go.Proofs.YtlfpkbjiofelkaaGreat
