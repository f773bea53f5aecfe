/-
  Contracts over this program: the statements' own tree, where nothing hangs on the node.
-/
import Derived.Test.YtoalnfkjpdgbiaaDoorRpTree0
namespace Go.Proofs.YtoalnfkjpdgbiaaDoor
open Go.RowKit
set_option linter.unusedVariables false
/-- what tree answers -/
def TreTold (n : Nat) (w : World) (t : Rp.T n) (at' : Nat) (e : Ending) (w' : World) : Prop :=
  ∃ cs, e = .returned (.tuple #[.agg cs.toArray, .int .i64 (at' : Int)]) ∧ Tel (fun b => w.heap.size ≤ b ∧ b < w'.heap.size) w' n cs t ∧ Below w.heap.size w w'
def t5 (n : Nat) : Rp.T (n + 1) := Rp.mk 5 .empty 0 []
theorem tel_five (P : Nat → Prop) (w : World) (n : Nat) : Tel P w (n + 1) [.int .i64 5, .string ⟨#[]⟩, .int .i64 0, .slice none 0 0] (t5 n) :=
  ⟨_, rfl, .inl ⟨rfl, _, rfl⟩, ⟨by show (-9223372036854775808 : Int) ≤ 5; decide, by show (5 : Int) ≤ 9223372036854775807; decide⟩, ⟨by show (-9223372036854775808 : Int) ≤ 0; decide, by show (0 : Int) ≤ 9223372036854775807; decide⟩, by show (0 : Nat) < 4294967281; decide⟩
set_option maxHeartbeats 1000000 in
theorem tree_none (n : Nat) (w : World) (so : Option Addr) (cap len at' : Nat) (d : Int) (h : len ≤ at') :
    Calls Tryd.prog 9 #[.slice so len cap, .int .i64 (at' : Int), .int .i64 d] w (TreTold (n + 1) w (t5 n) at') := by
  have hge : decide ((len : Int) ≤ (at' : Int)) = true := decide_eq_true (by omega)
  go_enter Tryd.func9, Tryd.ntmps9
  go_wp2
  (try simp only [Exit.inBlock, Exit.then])
  refine bodyPost_ret (res_rp2 rfl _ _ w.heap.size _ _ _ _ rfl (Box.new w _ _ _ _)) rfl ?_
  refine ⟨[.int .i64 5, .string ⟨#[]⟩, .int .i64 0, .slice none 0 0], rfl, ?_, (Below.refl _ _).alloc (Nat.le_refl _) _⟩
  exact tel_five _ _ _
set_option maxRecDepth 100000 in
set_option maxHeartbeats 2000000 in
theorem tree_leaf (w : World) (so : Option Addr) (cap : Nat) (S : List Nd) (at' : Nat) (hN : Nds w so S) (hl : S.length ≤ 1048576) (h : at' < S.length) :
    Calls Tryd.prog 9 #[.slice so S.length cap, .int .i64 (at' : Int), .int .i64 12] w (TreTold 1 w (tre S 0 at').1 (tre S 0 at').2) := by
  have hz : tre S 0 at' = (((S[at']).k, (S[at']).s, (S[at']).i, []), at' + 1) := by
    unfold tre
    rw [List.getElem?_eq_getElem h]
  obtain ⟨a, rfl, hab, hok, hst⟩ := hN at' h
  rw [hz]
  obtain ⟨o, ho⟩ : ∃ o, S[at'] = o := ⟨_, rfl⟩
  rw [ho] at hok hst ⊢
  clear ho hz hN
  obtain ⟨k, s, i, n⟩ := o
  obtain ⟨ok1, ok2, ok3, ok4⟩ := hok
  dsimp only at ok1 ok2 ok3 ok4 ⊢
  obtain ⟨W1, hW1⟩ : ∃ x, x = w.alloc (.cells #[.int .i64 0, .string ⟨#[]⟩, .int .i64 0, .slice none 0 0] 25) := ⟨_, rfl⟩
  have x1 : Box W1 w.heap.size (.int .i64 0) (.string ⟨#[]⟩) (.int .i64 0) (.slice none 0 0) := hW1 ▸ Box.new w _ _ _ _
  have b1 : Below w.heap.size w W1 := hW1 ▸ (Below.refl _ _).alloc (Nat.le_refl _) _
  obtain ⟨t0, t1, t2, t3⟩ := hst.bel b1 (by rw [addr_block]; exact hab)
  obtain ⟨W2, hW2⟩ : ∃ x, x = W1.alloc (.cells #[.int .i64 0, .string ⟨#[]⟩, .int .i64 0, .slice none 0 0] 25) := ⟨_, rfl⟩
  have x2 : Box W2 W1.heap.size (.int .i64 0) (.string ⟨#[]⟩) (.int .i64 0) (.slice none 0 0) := hW2 ▸ Box.new W1 _ _ _ _
  have b2 : Below W1.heap.size W1 W2 := hW2 ▸ (Below.refl _ _).alloc (Nat.le_refl _) _
  have b12 : Below w.heap.size w W2 := b1.trans (b2.mono b1.size)
  have z1 : W1.heap.size = w.heap.size + 1 := by rw [hW1]; show (w.heap.push _).size = _; simp
  have x12 := x1.below b2 x1.lt
  obtain ⟨u0, u1, u2, u3⟩ := hst.bel b12 (by rw [addr_block]; exact hab)
  have TT := keep (fun w' (hb : Below w.heap.size w w') => (hst.bel hb (by rw [addr_block]; exact hab)).2.2.2)
  dsimp only at TT
  obtain ⟨d0, d1, d2, d3⟩ := x2.cells
  have f0 := x2.free 0
  have f1 := x2.free 1
  have f2 := x2.free 2
  have f3 := x2.free 3
  have hlt : (at' : Int) < (S.length : Int) := by omega
  have hge : decide ((S.length : Int) ≤ (at' : Int)) = false := decide_eq_false (by omega)
  have h0 : (0 : Int) ≤ (at' : Int) := by omega
  have nw : IntKind.i64.wrap ((at' : Int) + 1) = ((at' + 1 : Nat) : Int) := by rw [IntKind.wrap_i64]; omega
  clear h
  generalize S.length = m at *
  have OK := keep (show I64 k ∧ I64 i ∧ s.size ≤ 1048576 from ⟨ok2, ok3, ok1⟩)
  have B1 := keep b1
  have X1 := keep x1
  have hW1' := hW1.symm
  have hW2' := hW2.symm
  have B12 := keep b12
  have X2 := keep x2
  have X12 := keep x12
  have Z1 := keep z1
  clear hl hab hst ok1 ok2 ok3 ok4 hW1 b1 x1 hW2 x2 b2 b12 x12 z1
  go_enter Tryd.func9, Tryd.ntmps9
  go_wp2
  go_region
  obtain ⟨W3, hW3⟩ : ∃ x, x = (set4 W2 W1.heap.size (.int .i64 k) (.string s) (.int .i64 i) (.slice none 0 0)).drew := ⟨_, rfl⟩
  have X3 := keep (show Box W3 W1.heap.size (.int .i64 k) (.string s) (.int .i64 i) (.slice none 0 0) from hW3 ▸ Box.four X2.out _ _ _ _)
  have B3 := keep (show Below w.heap.size w W3 from hW3 ▸ (Below.four B12.out B1.out.size _ _ _ _).drew)
  have X13 := keep (show Box W3 w.heap.size (.int .i64 0) (.string ⟨#[]⟩) (.int .i64 0) (.slice none 0 0) from by
    have z := Z1.out
    unfold Box
    rw [hW3]
    exact (four_other (by omega) _ _ _ _).trans X12.out)
  have hq3 : ((((W2.setCell ⟨W1.heap.size, 0, none⟩ (.int .i64 k)).setCell ⟨W1.heap.size, 1, none⟩ (.string s)).setCell ⟨W1.heap.size, 2, none⟩ (.int .i64 i)).setCell ⟨W1.heap.size, 3, none⟩ (.slice none 0 0)).drew = W3 := hW3.symm
  rw [hq3]
  have t3' : W3.cell? ⟨(a.add (at' * 4)).block, (a.add (at' * 4)).off + 3, none⟩ = some (.int .i64 n) := TT.out W3 B3.out
  obtain ⟨e0, e1, e2, e3⟩ := X3.out.cells
  obtain ⟨g0, g1, g2, g3⟩ := X13.out.cells
  have q0 := X13.out.free 0
  have q1 := X13.out.free 1
  have q2 := X13.out.free 2
  have q3 := X13.out.free 3
  clear hW3 hq3 hW1' hW2' t0 t1 t2 t3 u0 u1 u2 u3 d0 d1 d2 d3 f0 f1 f2 f3
  go_wp2
  go_loopw [10, 1] (fun i a1 wr => i = .int .i64 0 ∧ a1 = .int .i64 ((at' + 1 : Nat) : Int) ∧ wr = W3) (fun _ _ _ => 0)
  case atStart => exact ⟨rfl, rfl, rfl⟩
  case round =>
    obtain ⟨rfl, rfl, hwr⟩ := hrel
    obtain rfl := hwr.symm
    have FIN : Kept (TreTold 1 w ((k, s, i, []) : Rp.T 1) (at' + 1) (.returned (.tuple #[.agg #[.int .i64 k, .string s, .int .i64 i, .slice none 0 0], .int .i64 ((at' + 1 : Nat) : Int)])) (set4 W3 w.heap.size (.int .i64 k) (.string s) (.int .i64 i) (.slice none 0 0))) :=
      keep ⟨[.int .i64 k, .string s, .int .i64 i, .slice none 0 0], rfl, ⟨_, rfl, .inl ⟨rfl, _, rfl⟩, OK.out.1, OK.out.2.1, Nat.lt_of_le_of_lt OK.out.2.2 (by decide)⟩, Below.four B3.out (Nat.le_refl _) _ _ _ _⟩
    by_cases c1 : (0 : Int) < n
    · by_cases c2 : ((at' + 1 : Nat) : Int) < (m : Int)
      · go_wp2
        (try simp only [Exit.inBlock, Exit.then])
        refine bodyPost_ret (res_rp2 rfl _ _ w.heap.size _ _ _ _ rfl (Box.four X13.out _ _ _ _)) rfl ?_
        exact FIN.out
      · go_wp2
        (try simp only [Exit.inBlock, Exit.then])
        refine bodyPost_ret (res_rp2 rfl _ _ w.heap.size _ _ _ _ rfl (Box.four X13.out _ _ _ _)) rfl ?_
        exact FIN.out
    · go_wp2
      (try simp only [Exit.inBlock, Exit.then])
      refine bodyPost_ret (res_rp2 rfl _ _ w.heap.size _ _ _ _ rfl (Box.four X13.out _ _ _ _)) rfl ?_
      exact FIN.out
end Go.Proofs.YtoalnfkjpdgbiaaDoor
