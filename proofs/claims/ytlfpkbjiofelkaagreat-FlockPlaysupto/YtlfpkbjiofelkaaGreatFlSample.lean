/-
  Contracts over this program: Sample of a flock; a flock in blocks that are new.
-/
import Derived.Test.YtlfpkbjiofelkaaGreatFlAdd
import Derived.Test.YtlfpkbjiofelkaaGreatFlMembers
namespace Go.Proofs.YtlfpkbjiofelkaaGreat
open Go.RowKit Go.Shelf
/-- a flock in blocks that W does not have; W's own are as they were -/
def Rn (h : ByteArray → Nat) (N : Nat) (W w : World) (r : Roles) (R b seed : Nat) (s : Sx) : Prop :=
  Rec h N w r R b seed s ∧ W.heap.size ≤ R ∧ (∀ k, k < W.heap.size → r k = (0, 0)) ∧ Below W.heap.size W w
theorem Rn.step {h : ByteArray → Nat} {N N' : Nat} {W w w' : World} {r r' : Roles} {R b seed : Nat} {s s' : Sx} (hr : Rn h N W w r R b seed s) (h1 : Rec h N' w' r' R b seed s') (hf : Fr w (rr r R) w' (rr r' R)) : Rn h N' W w' r' R b seed s' := by
  obtain ⟨q1, q2, q3, q4⟩ := hr
  have hz : ∀ k, k < W.heap.size → rr r R k = (0, 0) := fun k hk => rr_zero.2 ⟨by omega, q3 k hk⟩
  refine ⟨h1, q2, fun k hk => (rr_zero.1 (hf.2.2 k (Nat.lt_of_lt_of_le hk q4.size) (hz k hk)).2).2, q4.trans (hf.below q4.size hz)⟩
theorem Rn.below {h : ByteArray → Nat} {N : Nat} {W w w' : World} {r : Roles} {R b seed : Nat} {s : Sx} (hr : Rn h N W w r R b seed s) (hb : Below w.heap.size w w') : Rn h N W w' r R b seed s :=
  ⟨hr.1.below hb, hr.2.1, hr.2.2.1, hr.2.2.2.trans (hb.mono hr.2.2.2.size)⟩
theorem Rn.more {h : ByteArray → Nat} {N N' : Nat} {W w : World} {r : Roles} {R b seed : Nat} {s : Sx} (hr : Rn h N W w r R b seed s) (hN : N ≤ N') : Rn h N' W w r R b seed s := ⟨hr.1.more hN, hr.2⟩
theorem Prs.at {B : Nat} {w : World} {g : Nat} {L : List ByteArray} {e : ByteArray} {p n c : Nat} (h : Prs B w (.slice (some ⟨g, 0, none⟩) n c) L) (he : L[p]? = some e) : w.cell? ⟨g, p, none⟩ = some (.string e) := by
  obtain ⟨g', e1, ho⟩ := h
  cases e1
  have add : ∀ i, (⟨g, 0, none⟩ : Addr).add i = ⟨g, i, none⟩ := by intro i; unfold Addr.add; split <;> simp_all
  have c1 := ho.cells (g := g) rfl p (.string e) (by unfold enS; rw [List.getElem?_map, he]; rfl)
  rwa [add] at c1
theorem Prs.kept {B : Nat} {w w' : World} {v : Value} {L : List ByteArray} (h : Prs B w v L) (hb : Below w.heap.size w w') : Prs B w' v L := by
  obtain ⟨g, rfl, ho⟩ := h
  exact ⟨g, rfl, own_kept ho (fun k hk => hb.block k (own_lt ho hk))⟩
theorem Prs.form {B : Nat} {w : World} {v : Value} {L : List ByteArray} (h : Prs B w v L) : ∃ g, v = .slice (some ⟨g, 0, none⟩) L.length L.length ∧ g < w.heap.size ∧ B ≤ g := by
  obtain ⟨g, rfl, ho⟩ := h
  exact ⟨g, rfl, own_lt ho rfl, (ho.lt g rfl).1⟩
set_option maxHeartbeats 400000 in
theorem fsample_none {h : ByteArray → Nat} {seed N : Nat} (W : World) (r : Roles) (R b : Nat) (s : Sx) (hr : Rec h N W r R b seed s) (hN : N ≤ 2600000000000) (n : Int) (hs : kys s = []) :
    Calls Tryz.prog 31 #[.pointer (some ⟨R, 0, none⟩), .int .u64 n] W fun e w' => e = .returned (.tuple #[.string .empty, .bool false]) ∧ Below W.heap.size W w' := by
  have mP := fmembers_any W r R b s hr hN
  rw [hs] at mP
  clear hr hs
  go_enter Tryz.func31, Tryz.ntmps31
  go_wp2_with fail
  refine mP.mono ?_
  rintro _ w1 ⟨v, L, rfl, hL, hP, hb⟩
  obtain rfl : L = [] := List.perm_nil.1 hL.1
  obtain ⟨g, rfl, _⟩ := hP.form
  simp only [List.length_nil]
  clear mP hL hP
  go_wp2
  refine bodyPost_ret (results_tmp2 rfl _ _ _) rfl ?_
  exact ⟨rfl, hb⟩
set_option maxHeartbeats 400000 in
theorem fsample_at {h : ByteArray → Nat} {seed N : Nat} (W : World) (r : Roles) (R b : Nat) (s : Sx) (hr : Rec h N W r R b seed s) (hN : N ≤ 2600000000000) (n : Nat) (hn : n < Dw.M) (L : List ByteArray) (hL : Srs (kys s) L) (e0 : ByteArray) (he : L[n % L.length]? = some e0) :
    Calls Tryz.prog 31 #[.pointer (some ⟨R, 0, none⟩), .int .u64 n] W fun e w' => e = .returned (.tuple #[.string e0, .bool true]) ∧ Below W.heap.size W w' := by
  have mP := fmembers_any W r R b s hr hN
  have hLl : L.length ≤ 2600000000000 := by rw [hL.1.length_eq]; unfold kys; rw [List.length_map]; have := hr.1.2.2.2.1; omega
  have hL0 : 0 < L.length := by
    have := (List.getElem?_eq_some_iff.1 he).1
    omega
  clear hr
  go_enter Tryz.func31, Tryz.ntmps31
  go_wp2_with fail
  refine mP.mono ?_
  rintro _ w1 ⟨v, L', rfl, hL', hP, hb⟩
  obtain rfl : L' = L := hL'.eq hL (List.Perm.refl _)
  obtain ⟨g, rfl, _⟩ := hP.form
  have c0 := hP.at he
  have hx' := Dw.le_of hn
  have h3 : n % L'.length < L'.length := Nat.mod_lt _ hL0
  obtain ⟨p, hp⟩ : ∃ p, n % L'.length = p := ⟨_, rfl⟩
  obtain ⟨l, hl⟩ : ∃ l, L'.length = l := ⟨_, rfl⟩
  rw [hl] at h3 hL0 hLl hp ⊢
  rw [hl, hp] at c0
  have h1 : IntKind.u64.wrap (l : Int) = (l : Int) := by rw [IntKind.wrap_u64]; omega
  have h2 : ((l : Int) == 0) = false := beq_eq_false_iff_ne.2 (by omega)
  have h2' : 1 ≤ (l : Int) := by omega
  have hpp : (n : Int) % (l : Int) = (p : Int) := by rw [← hp]; simp
  have hpl : (p : Int) < (l : Int) := by rw [← hp]; omega
  have hp0 : (0 : Int) ≤ (p : Int) := by omega
  have HB := keep hb
  clear mP hL hP hL' he hb hl hp h3 hn
  go_wp2
  refine bodyPost_ret (results_tmp2 rfl _ _ _) rfl ?_
  exact ⟨rfl, HB.out⟩
end Go.Proofs.YtlfpkbjiofelkaaGreat
