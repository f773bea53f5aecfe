/-
  Contracts over this program: the statements' own tree.
-/
import Derived.Test.YtoalnfkjpdgbiaaDoorRpTree1
namespace Go.Proofs.YtoalnfkjpdgbiaaDoor
open Go.RowKit
set_option linter.unusedVariables false
theorem Box.three {w : World} {b : Nat} {a0 a1 a2 a3 : Value} (h : Box w b a0 a1 a2 a3) (v : Value) : Box (w.setCell ⟨b, 3, none⟩ v) b a0 a1 a2 v := cell_set h 3 v
set_option maxRecDepth 100000 in
set_option maxHeartbeats 4000000 in
theorem tree_step (m : Nat) (w : World) (so : Option Addr) (cap : Nat) (S : List Nd) (at' : Nat) (d : Int) (hd0 : 0 ≤ d) (hd : d < 12) (hN : Nds w so S) (hl : S.length ≤ 1048576) (h : at' < S.length)
    (IH : ∀ (w' : World) (a : Nat), a < S.length → Nds w' so S → Calls Tryd.prog 9 #[.slice so S.length cap, .int .i64 (a : Int), .int .i64 (d + 1)] w' (TreTold (m + 1) w' (tre S m a).1 (tre S m a).2)) :
    Calls Tryd.prog 9 #[.slice so S.length cap, .int .i64 (at' : Int), .int .i64 d] w (TreTold (m + 2) w (tre S (m + 1) at').1 (tre S (m + 1) at').2) := by
  have HNDS := keep (fun w' (hb : Below w.heap.size w w') => hN.bel hb)
  have hz : tre S (m + 1) at' = (((S[at']).k, (S[at']).s, (S[at']).i, (kids (tre S m) S.length (S[at']).n.toNat (at' + 1)).1), (kids (tre S m) S.length (S[at']).n.toNat (at' + 1)).2) := by
    unfold tre
    rw [List.getElem?_eq_getElem h]
  have IHK := keep IH
  obtain ⟨a, rfl, hab, hok, hst⟩ := hN at' h
  rw [hz]
  obtain ⟨o, ho⟩ : ∃ o, S[at'] = o := ⟨_, rfl⟩
  rw [ho] at hok hst ⊢
  clear ho hz hN IH
  obtain ⟨k, s, i, n⟩ := o
  obtain ⟨ok1, ok2, ok3, ok4⟩ := hok
  dsimp only at ok1 ok2 ok3 ok4 ⊢
  have KLE := keep (fun x hx => tre_le S m x hx)
  obtain ⟨W1, hW1⟩ : ∃ x, x = w.alloc (.cells #[.int .i64 0, .string ⟨#[]⟩, .int .i64 0, .slice none 0 0] 25) := ⟨_, rfl⟩
  have x1 : Box W1 w.heap.size (.int .i64 0) (.string ⟨#[]⟩) (.int .i64 0) (.slice none 0 0) := hW1 ▸ Box.new w _ _ _ _
  have b1 : Below w.heap.size w W1 := hW1 ▸ (Below.refl _ _).alloc (Nat.le_refl _) _
  obtain ⟨t0, t1, t2, t3⟩ := hst.bel b1 (by rw [addr_block]; exact hab)
  obtain ⟨W2, hW2⟩ : ∃ x, x = W1.alloc (.cells #[.int .i64 0, .string ⟨#[]⟩, .int .i64 0, .slice none 0 0] 25) := ⟨_, rfl⟩
  have x2 : Box W2 W1.heap.size (.int .i64 0) (.string ⟨#[]⟩) (.int .i64 0) (.slice none 0 0) := hW2 ▸ Box.new W1 _ _ _ _
  have b2 : Below W1.heap.size W1 W2 := hW2 ▸ (Below.refl _ _).alloc (Nat.le_refl _) _
  have b12 : Below w.heap.size w W2 := b1.trans (b2.mono b1.size)
  have z1 : W1.heap.size = w.heap.size + 1 := by rw [hW1]; show (w.heap.push _).size = _; simp
  have x12 := x1.below b2 x1.lt
  obtain ⟨u0, u1, u2, u3⟩ := hst.bel b12 (by rw [addr_block]; exact hab)
  have TT := keep (fun w' (hb : Below w.heap.size w w') => (hst.bel hb (by rw [addr_block]; exact hab)).2.2.2)
  dsimp only at TT
  obtain ⟨d0, d1, d2, d3⟩ := x2.cells
  have f0 := x2.free 0
  have f1 := x2.free 1
  have f2 := x2.free 2
  have f3 := x2.free 3
  have hlt : (at' : Int) < (S.length : Int) := by omega
  have hge : decide ((S.length : Int) ≤ (at' : Int)) = false := decide_eq_false (by omega)
  have h0 : (0 : Int) ≤ (at' : Int) := by omega
  have nw : IntKind.i64.wrap ((at' : Int) + 1) = ((at' + 1 : Nat) : Int) := by rw [IntKind.wrap_i64]; omega
  have nd : IntKind.i64.wrap (d + 1) = d + 1 := by rw [IntKind.wrap_i64]; omega
  have HL := keep hl
  have HLT := keep h
  obtain ⟨D, hD⟩ : ∃ D, D = tre S m := ⟨_, rfl⟩
  rw [← hD] at KLE IHK ⊢
  clear hD h
  generalize S.length = len at *
  have OK := keep (show I64 k ∧ I64 i ∧ s.size ≤ 1048576 ∧ I64 n from ⟨ok2, ok3, ok1, ok4⟩)
  have B1 := keep b1
  have hW1' := hW1.symm
  have hW2' := hW2.symm
  have B12 := keep b12
  have X2 := keep x2
  have X12 := keep x12
  have Z1 := keep z1
  clear hl hab hst ok1 ok2 ok3 ok4 hW1 b1 x1 hW2 x2 b2 b12 x12 z1 hd0
  go_enter Tryd.func9, Tryd.ntmps9
  go_wp2
  go_region
  obtain ⟨W3, hW3⟩ : ∃ x, x = (set4 W2 W1.heap.size (.int .i64 k) (.string s) (.int .i64 i) (.slice none 0 0)).drew := ⟨_, rfl⟩
  have X3 := keep (show Box W3 W1.heap.size (.int .i64 k) (.string s) (.int .i64 i) (.slice none 0 0) from hW3 ▸ Box.four X2.out _ _ _ _)
  have B3 := keep (show Below w.heap.size w W3 from hW3 ▸ (Below.four B12.out B1.out.size _ _ _ _).drew)
  have X13 := keep (show Box W3 w.heap.size (.int .i64 0) (.string ⟨#[]⟩) (.int .i64 0) (.slice none 0 0) from by
    have z := Z1.out
    unfold Box
    rw [hW3]
    exact (four_other (by omega) _ _ _ _).trans X12.out)
  have hq3 : ((((W2.setCell ⟨W1.heap.size, 0, none⟩ (.int .i64 k)).setCell ⟨W1.heap.size, 1, none⟩ (.string s)).setCell ⟨W1.heap.size, 2, none⟩ (.int .i64 i)).setCell ⟨W1.heap.size, 3, none⟩ (.slice none 0 0)).drew = W3 := hW3.symm
  rw [hq3]
  have t3' : W3.cell? ⟨(a.add (at' * 4)).block, (a.add (at' * 4)).off + 3, none⟩ = some (.int .i64 n) := TT.out W3 B3.out
  clear hW3 hq3 hW1' hW2' t0 t1 t2 t3 u0 u1 u2 u3 d0 d1 d2 d3 f0 f1 f2 f3
  go_wp2
  go_loopw [10, 1] (fun i1 a1 wr => ∃ (j pos : Nat) (v : Value) (ts : List (Rp.T (m + 1))), i1 = .int .i64 (j : Int) ∧ a1 = .int .i64 (pos : Int) ∧ j ≤ n.toNat ∧ Kept (pos ≤ len) ∧ Kept (ts.length ≤ pos) ∧ Kept (Box wr W1.heap.size (.int .i64 k) (.string s) (.int .i64 i) v) ∧ Kept (Box wr w.heap.size (.int .i64 0) (.string ⟨#[]⟩) (.int .i64 0) (.slice none 0 0)) ∧ Kept (Row W3.heap.size wr (m + 1) v ts) ∧ Kept (Below w.heap.size w wr) ∧ Kept (W3.heap.size ≤ wr.heap.size) ∧ Kept (kids D len n.toNat (at' + 1) = (ts ++ (kids D len (n.toNat - j) pos).1, (kids D len (n.toNat - j) pos).2))) (fun i1 _ _ => n.toNat - (intOf i1).toNat)
  case atStart => exact ⟨0, at' + 1, .slice none 0 0, [], rfl, rfl, Nat.zero_le _, keep HLT.out, keep (Nat.zero_le _), X3, X13, keep (Row.nil _ _ _), B3, keep (Nat.le_refl _), keep (by rw [List.nil_append, Nat.sub_zero])⟩
  case round =>
    obtain ⟨j, pos, v, ts, rfl, rfl, hj, PL, TL, X8, X6, RW, BW, SZ, KD⟩ := hrel
    have FIN : ¬ ((j : Int) < n ∧ pos < len) → Kept (TreTold (m + 2) w ((k, s, i, (kids D len n.toNat (at' + 1)).1) : Rp.T (m + 2)) (kids D len n.toNat (at' + 1)).2 (.returned (.tuple #[.agg #[.int .i64 k, .string s, .int .i64 i, v], .int .i64 (pos : Int)])) (set4 wr w.heap.size (.int .i64 k) (.string s) (.int .i64 i) v)) := fun hc => by
      have e := kids_done (D := D) (len := len) (k := n.toNat - j) (a := pos) (by
        by_cases h1 : (j : Int) < n
        · exact .inr (fun h2 => hc ⟨h1, h2⟩)
        · left; omega)
      have e2 := KD.out
      rw [e, List.append_nil] at e2
      rw [e2]
      refine keep ⟨[.int .i64 k, .string s, .int .i64 i, v], rfl, ⟨v, rfl, ?_, OK.out.1, OK.out.2.1, Nat.lt_of_le_of_lt OK.out.2.2.1 (by decide)⟩, Below.four BW.out (Nat.le_refl _) _ _ _ _⟩
      have fz : (set4 wr w.heap.size (.int .i64 k) (.string s) (.int .i64 i) v).heap.size = wr.heap.size := by simp [set4, World.setCell]
      have z3 : w.heap.size < W3.heap.size := X13.out.lt
      have hlow : ∀ b, (W3.heap.size ≤ b ∧ b < wr.heap.size) → (w.heap.size ≤ b ∧ b < (set4 wr w.heap.size (.int .i64 k) (.string s) (.int .i64 i) v).heap.size) := fun b h => ⟨by omega, by rw [fz]; exact h.2⟩
      have hsm : ∀ b, (W3.heap.size ≤ b ∧ b < wr.heap.size) → (set4 wr w.heap.size (.int .i64 k) (.string s) (.int .i64 i) v).heap[b]? = wr.heap[b]? := fun b h => four_other (by omega) _ _ _ _
      exact RW.out.lst.mono hlow hsm (fun cs x hx => Tel.mono hlow hsm _ _ _ hx)
    obtain ⟨e0, e1, e2, e3⟩ := X8.out.cells
    obtain ⟨g0, g1, g2, g3⟩ := X6.out.cells
    have q0 := X6.out.free 0
    have q1 := X6.out.free 1
    have q2 := X6.out.free 2
    have q3 := X6.out.free 3
    by_cases c1 : (j : Int) < n
    · by_cases c2 : pos < len
      · clear FIN
        have c2' : (pos : Int) < (len : Int) := by omega
        have jw : IntKind.i64.wrap ((j : Int) + 1) = ((j + 1 : Nat) : Int) := by have := OK.out.2.2.2.2; rw [IntKind.wrap_i64]; omega
        obtain ⟨WA, hWA⟩ : ∃ x, x = wr.alloc (.cells #[.int .i64 0, .string ⟨#[]⟩, .int .i64 0, .slice none 0 0] 25) := ⟨_, rfl⟩
        have xa : Box WA wr.heap.size (.int .i64 0) (.string ⟨#[]⟩) (.int .i64 0) (.slice none 0 0) := hWA ▸ Box.new wr _ _ _ _
        have ba : Below wr.heap.size wr WA := hWA ▸ (Below.refl _ _).alloc (Nat.le_refl _) _
        have BA := keep ba
        have XA := keep xa
        have za : Kept (WA.heap.size = wr.heap.size + 1) := keep (by rw [hWA]; show (wr.heap.push _).size = _; simp)
        have CALL := keep (IHK.out WA pos c2 (HNDS.out WA (BW.out.trans (ba.mono BW.out.size))))
        have hWA' := hWA.symm
        obtain ⟨aoV, cV, hvV⟩ := RW.out.form
        obtain ⟨q5, hq5⟩ : ∃ q, ts.length = q := ⟨_, rfl⟩
        rw [hq5] at hvV
        clear hq5
        subst hvV
        clear hWA ba xa e0 e1 e2 e3 g0 g1 g2 g3 q0 q1 q2 q3
        go_wp2_with fail
        refine CALL.out.mono ?_
        rintro e w2 ⟨cs, rfl, ht, b2⟩
        obtain ⟨c0, c1', c2'', c3, c4, c5, rfl, _⟩ := ht.six
        have xa2 := XA.out.below b2 XA.out.lt
        obtain ⟨d0, d1, d2, d3⟩ := xa2.cells
        have f0 := xa2.free 0
        have f1 := xa2.free 1
        have f2 := xa2.free 2
        have f3 := xa2.free 3
        obtain ⟨w3, hw3⟩ : ∃ x, x = set4 w2 wr.heap.size (.int .i64 c0) (.string c1') (.int .i64 c2'') (.slice c3 c4 c5) := ⟨_, rfl⟩
        have hw3' : ((((w2.setCell ⟨wr.heap.size, 0, none⟩ (.int .i64 c0)).setCell ⟨wr.heap.size, 1, none⟩ (.string c1')).setCell ⟨wr.heap.size, 2, none⟩ (.int .i64 c2'')).setCell ⟨wr.heap.size, 3, none⟩ (.slice c3 c4 c5)) = w3 := hw3.symm
        have z23 : w3.heap.size = w2.heap.size := by rw [hw3]; simp [set4, World.setCell]
        have b3 : Below wr.heap.size wr w3 := hw3 ▸ Below.four (BA.out.trans (b2.mono BA.out.size)) (Nat.le_refl _) _ _ _ _
        have xa3 : Box w3 wr.heap.size (.int .i64 c0) (.string c1') (.int .i64 c2'') (.slice c3 c4 c5) := hw3 ▸ Box.four xa2 _ _ _ _
        have row3 : Row W3.heap.size w3 (m + 1) (.slice aoV q5 cV) ts := RW.out.later b3.size (fun b h1 h2 => b3.block b h2)
        have tel3 : Tel (Mine W3.heap.size w3 (.slice aoV q5 cV)) w3 (m + 1) [.int .i64 c0, .string c1', .int .i64 c2'', .slice c3 c4 c5] (D pos).1 :=
          Tel.mono (fun b h => ⟨by have := za.out; have := SZ.out; omega, by rw [z23]; exact h.2, fun e => by have := (RW.out.own e).2; have := za.out; omega⟩) (fun b h => by rw [hw3]; exact four_other (by have := za.out; omega) _ _ _ _) _ _ _ ht
        obtain ⟨v', w6, run6, row6, gr6⟩ := row_app row3 tel3 (by have := TL.out; have := PL.out; have := HL.out; omega) (Nat.le_trans SZ.out b3.size) 23
        obtain ⟨aoN, cN, hv6⟩ := row6.form
        obtain ⟨q6, hq6⟩ : ∃ q, (ts ++ [(D pos).1]).length = q := ⟨_, rfl⟩
        rw [hq6] at hv6
        clear hq6
        subst hv6
        obtain ⟨w4, hw4⟩ : ∃ x, x = w3.alloc (.cells #[.int .i64 c0, .string c1', .int .i64 c2'', .slice c3 c4 c5] 25) := ⟨_, rfl⟩
        rw [← hw4] at run6
        have bs : (Instr.buildSlice 23 1 #[(0, .agg #[.int .i64 c0, .string c1', .int .i64 c2'', .slice c3 c4 c5])]).run Tryd.prog w3 = .ok (.slice (some ⟨w3.heap.size, 0, none⟩) 1 1) w4 := by
          obtain ⟨i0, hi0, hz0, hz1, hz2⟩ := parts_of info_rp
          rw [hw4]
          exact run_buildSlice w3 _ _ 1 _ _ i0 _ Tryd.underlying23 hi0 hz0 (by rw [hz1]; decide) (by rw [hz1]; decide) (by rw [hz1]; simp [Instr.fill, Value.cells, Array.range, List.zipIdx]; rfl)
        have RUN := keep run6
        have far8 : Far (.slice aoV q5 cV) w3 W1.heap.size := ⟨Nat.lt_of_lt_of_le X8.out.lt b3.size, fun e => by have := (RW.out.own e).1; have := X3.out.lt; omega⟩
        have far6 : Far (.slice aoV q5 cV) w3 w.heap.size := ⟨Nat.lt_of_lt_of_le X6.out.lt b3.size, fun e => by have := (RW.out.own e).1; have := X13.out.lt; omega⟩
        have x83 := X8.out.below b3 X8.out.lt
        have x63 := X6.out.below b3 X6.out.lt
        have X86 := keep (show Box w6 W1.heap.size (.int .i64 k) (.string s) (.int .i64 i) (.slice aoV q5 cV) from (gr6.same far8).trans x83)
        have X66 := keep (show Box w6 w.heap.size _ _ _ _ from (gr6.same far6).trans x63)
        obtain ⟨e0, e1, e2, e3⟩ := x83.cells
        obtain ⟨g0, g1, g2, g3⟩ := xa3.cells
        obtain ⟨p0, p1, p2, p3⟩ := X86.out.cells
        have r3 := X86.out.free 3
        have R6 := keep row6
        have G6 := keep (show Below w.heap.size w w6 from (BW.out.trans (b3.mono BW.out.size)).trans (gr6.below (Nat.le_trans BW.out.size b3.size) (fun k hk => by have := (RW.out.own hk).1; have := X13.out.lt; omega)))
        have S6 := keep (show W3.heap.size ≤ w6.heap.size from Nat.le_trans SZ.out (Nat.le_trans b3.size gr6.size))
        have C2 := keep c2
        have C1 := keep c1
        have hw4' := hw4.symm
        clear b2 ht xa2 hw3 hw4 z23 b3 xa3 row3 tel3 row6 gr6 far8 far6 x83 x63 run6
        go_wp2_with ((show wpList _ _ _ ({ dst := some 68, op := Op.call { callee := Callee.builtin Builtin.append, args := _, argTypes := _ }, type := _, pos := _, after := _, guard := _ } :: _) _ _; refine wpList_app_run rfl _ _ _ _ rfl _ _ _ rfl rfl RUN.out ?_))
        obtain ⟨w7, hw7⟩ : ∃ x, x = w6.setCell ⟨W1.heap.size, 3, none⟩ (.slice aoN q6 cN) := ⟨_, rfl⟩
        rw [← hw7]
        go_roundw
        case measure => have := C1.out; simp [intOf]; omega
        case rel =>
          have hz7 : w7.heap.size = w6.heap.size := by rw [hw7]; simp [World.setCell]
          have h7 : ∀ b, b ≠ W1.heap.size → w7.heap[b]? = w6.heap[b]? := fun b hb => by rw [hw7]; exact Below.heap_setCell _ (⟨W1.heap.size, 3, none⟩ : Addr) _ _ hb
          refine ⟨j + 1, (D pos).2, .slice aoN q6 cN, ts ++ [(D pos).1], by rfl, by rfl, by have := C1.out; omega, keep (KLE.out pos C2.out).2, keep (by rw [List.length_append, List.length_singleton]; have := (KLE.out pos C2.out).1; have := TL.out; omega), keep (hw7 ▸ X86.out.three _), keep ((h7 _ (by have := X13.out.lt; have := Z1.out; omega)).trans X66.out), keep (R6.out.later (Nat.le_of_eq hz7.symm) (fun b h1 h2 => h7 b (by have := X3.out.lt; omega))), keep (hw7 ▸ G6.out.setCell (p := ⟨W1.heap.size, 3, none⟩) (by show w.heap.size ≤ W1.heap.size; have := Z1.out; omega) _), keep (by rw [hz7]; exact S6.out), keep ?_⟩
          rw [KD.out, show n.toNat - j = (n.toNat - (j + 1)) + 1 by have := C1.out; omega]
          exact kids_more C2.out ts
      · have F2 := FIN (fun h => c2 h.2)
        have c2' : ¬ (pos : Int) < (len : Int) := by omega
        clear FIN
        obtain ⟨ao, cc, rfl⟩ := RW.out.form
        go_wp2
        (try simp only [Exit.inBlock, Exit.then])
        refine bodyPost_ret (res_rp2 rfl _ _ w.heap.size _ _ _ _ rfl (Box.four X6.out _ _ _ _)) rfl ?_
        exact F2.out
    · have F2 := FIN (fun h => c1 h.1)
      clear FIN
      obtain ⟨ao, cc, rfl⟩ := RW.out.form
      go_wp2
      (try simp only [Exit.inBlock, Exit.then])
      refine bodyPost_ret (res_rp2 rfl _ _ w.heap.size _ _ _ _ rfl (Box.four X6.out _ _ _ _)) rfl ?_
      exact F2.out
/-- the reply of the node at a place, and the place behind all that hangs on it -/
theorem tree_any (so : Option Addr) (cap : Nat) (S : List Nd) (hl : S.length ≤ 1048576) : ∀ (m : Nat), m ≤ 12 → ∀ (w : World) (at' : Nat), at' < S.length → Nds w so S →
    Calls Tryd.prog 9 #[.slice so S.length cap, .int .i64 (at' : Int), .int .i64 (12 - (m : Int))] w (TreTold (m + 1) w (tre S m at').1 (tre S m at').2)
  | 0, _, w, at', ha, hN => tree_leaf w so cap S at' hN hl ha
  | m + 1, hm, w, at', ha, hN => tree_step m w so cap S at' (12 - ((m + 1 : Nat) : Int)) (by omega) (by omega) hN hl ha (fun w' a h1 h2 => by
      rw [show (12 - ((m + 1 : Nat) : Int)) + 1 = 12 - (m : Int) by omega]
      exact tree_any so cap S hl m (by omega) w' a h1 h2)
end Go.Proofs.YtoalnfkjpdgbiaaDoor
