/-
  The walk of DictLittle: a little in each call, and the moving ends.
-/
import Derived.Test.YtbcmahhpdpdmcaaDictDoes
namespace Go.Proofs.Ytbcmahhpdpdmcaa
open Go.RowKit Go.Shelf
/-- a dict and its list, apart from what lay in W -/
def Both (h : ByteArray → Nat) (N : Nat) (W w : World) (r : Roles) (b seed : Nat) (s : Dc.St ByteArray Int) (lv : Value) (l : List Ent) : Prop :=
  Dd h N w r b seed s ∧ Lst s l ∧ Lie w lv l ∧ (∀ k, lv.ownBlock = some k → r k = (0, 0)) ∧ Below W.heap.size W w ∧ ∀ k, k < W.heap.size → role r lv (7, 0) k = (0, 0)
theorem Both.below {h : ByteArray → Nat} {N : Nat} {W w w' : World} {r : Roles} {b seed : Nat} {s : Dc.St ByteArray Int} {lv : Value} {l : List Ent} (hB : Both h N W w r b seed s lv l) (hb : Below w.heap.size w w') : Both h N W w' r b seed s lv l :=
  ⟨hB.1.below hb, hB.2.1, hB.2.2.1.kept (fun k hk => hb.block k (own_lt hB.2.2.1 hk)), hB.2.2.2.1, hB.2.2.2.2.1.trans (hb.mono hB.2.2.2.2.1.size), hB.2.2.2.2.2⟩
theorem Both.done {h : ByteArray → Nat} {N : Nat} {W w w' : World} {r : Roles} {b seed : Nat} {s : Dc.St ByteArray Int} {lv : Value} {l : List Ent} {o : Stp} {e : Ending} (hB : Both h N W w r b seed s lv l) (hD : Done h N w r b seed s o lv e w') :
    ∃ lv' l' r', e = .returned (.tuple #[lv', .bool true]) ∧ Both h (N + 1) W w' r' b seed (doS h s o) lv' l' := by
  obtain ⟨lv', l', r', h1, h2, h3, h4, h5, h6⟩ := hD
  have hs := hB.2.2.2.2.1.size
  refine ⟨lv', l', r', h1, h2, h3, h4, h5, hB.2.2.2.2.1.trans (h6.below hs hB.2.2.2.2.2), fun k hk => (h6.2.2 k (by omega) (hB.2.2.2.2.2 k hk)).2⟩
theorem both_new {h : ByteArray → Nat} {N : Nat} {W w w' : World} {b seed : Nat} (hb : Below W.heap.size W w) (hb2 : Below w.heap.size w w') (hd : Dd h N w' (fun k => if k = w.heap.size then (5, 0) else (0, 0)) b seed Dc.none0) : Both h N W w' (fun k => if k = w.heap.size then (5, 0) else (0, 0)) b seed Dc.none0 (.slice none 0 0) [] := by
  have hs := hb.size
  refine ⟨hd, lst_none, ⟨rfl, .inl ⟨rfl, rfl⟩⟩, (fun k e => by cases e), hb.trans (hb2.mono hs), fun k hk => ?_⟩
  unfold role
  rw [if_neg (by simp [Value.ownBlock])]
  show (if k = w.heap.size then _ else _) = _
  rw [if_neg (by omega)]
/- a little at a time -/
theorem fit_lt {n L : Nat} (h4 : 4 < L) (h8 : 8 * n ≤ L) : Dc.fit n < L := by
  have := fitF_le2 n 4 n
  unfold Dc.fit
  omega
theorem every_len (f : List Ent → List Ent) (s : Dc.St ByteArray Int) : (Dc.every f s).old.length = s.old.length ∧ (Dc.every f s).young.length = s.young.length ∧ (Dc.every f s).pos = s.pos := by unfold Dc.every; simp
theorem lay_len2 (h : ByteArray → Nat) (s : Dc.St ByteArray Int) (e : Ent) : (Dc.lay h s e).old.length = s.old.length ∧ (Dc.lay h s e).young.length = s.young.length ∧ (Dc.lay h s e).pos = s.pos := by
  unfold Dc.lay
  split
  · exact ⟨Dc.push_len _ _ _, rfl, rfl⟩
  · exact ⟨rfl, Dc.push_len _ _ _, rfl⟩
/-- from a dict that is moving: either the sizes turn, or it goes on a little -/
def Lit (s s' : Dc.St ByteArray Int) : Prop := s'.young.length ≠ s.young.length ∨ (s.pos ≤ s'.pos ∧ s'.pos ≤ s.pos + 11)
theorem lit_of {h : ByteArray → Nat} {s : Dc.St ByteArray Int} (hI : Dc.Inv h s) (hy : s.young ≠ []) (o : Stp) (h3 : o.op ≠ 3) : Lit s (doS h s o) := by
  have hyl : 0 < s.young.length := by cases hs : s.young with | nil => exact absurd hs hy | cons _ _ => simp
  have hst := Dc.step_little hI hy
  have hI1 := (Dc.step_inv hI).1
  unfold doS
  split
  · unfold Dc.set
    split
    · obtain ⟨a, b, c⟩ := every_len (Dc.alter o.key o.v) (Dc.step h s)
      rcases hst with ⟨e1, _, _⟩ | ⟨e1, e2, _, _⟩
      · left; show (Dc.every _ _).young.length ≠ _; rw [b, e1]; simp; omega
      · right; show _ ≤ (Dc.every _ _).pos ∧ (Dc.every _ _).pos ≤ _; rw [c]; omega
    · obtain ⟨a, b, c⟩ := lay_len2 h (Dc.grow (Dc.all (Dc.step h s)).length (Dc.step h s)) (o.key, o.v)
      rcases hst with ⟨e1, e0, e2⟩ | ⟨e1, e2, e3, e4⟩
      · left
        show (Dc.lay _ _ _).young.length ≠ _
        rw [b]
        unfold Dc.grow
        split
        · simp; omega
        · split
          · rw [List.length_replicate, e2]; omega
          · rw [e1]; simp; omega
      · right
        show _ ≤ (Dc.lay _ _ _).pos ∧ (Dc.lay _ _ _).pos ≤ _
        rw [c]
        have hy1 : (Dc.step h s).young ≠ [] := fun e => by rw [e] at e4; simp at e4; omega
        have ho1 : (Dc.step h s).old ≠ [] := fun e => by have := hI1.move hy1; rw [e] at this; simp at this
        unfold Dc.grow
        rw [if_neg (by rw [Dc.empty_iff]; exact ho1), if_neg (by rw [Bool.and_eq_true, Dc.empty_iff]; exact fun hh => hy1 hh.1)]
        omega
  · split
    · rcases hst with ⟨e1, _, _⟩ | ⟨e1, e2, _, _⟩
      · left; rw [e1]; simp; omega
      · right; omega
    · split
      · unfold Dc.delete
        split
        · obtain ⟨a, b, c⟩ := every_len (Dc.without o.key) (Dc.step h s)
          show Lit s (Dc.shrink _ _)
          rcases hst with ⟨e1, e0, e2⟩ | ⟨e1, e2, e3, e4⟩
          · left
            unfold Dc.shrink
            split
            · rename_i hc
              rw [Bool.and_eq_true, Bool.and_eq_true, decide_eq_true_iff, decide_eq_true_iff, a] at hc
              have := fit_lt hc.2.1 hc.2.2
              show (List.replicate _ _).length ≠ _
              rw [List.length_replicate]; omega
            · rw [b, e1]; simp; omega
          · right
            have hy1 : (Dc.every (Dc.without o.key) (Dc.step h s)).young ≠ [] := fun e => by rw [e] at b; simp at b; omega
            unfold Dc.shrink
            rw [if_neg (by rw [Bool.and_eq_true, Dc.empty_iff]; exact fun hh => hy1 hh.1), c]
            omega
        · show Lit s (Dc.step h s)
          rcases hst with ⟨e1, _, _⟩ | ⟨e1, e2, _, _⟩
          · left; rw [e1]; simp; omega
          · right; omega
      · exact .inr ⟨by omega, by omega⟩
theorem still_of {h : ByteArray → Nat} {s : Dc.St ByteArray Int} (hI : Dc.Inv h s) (hy : s.young = []) (o : Stp) : (doS h s o).pos = 0 := by
  have hp := hI.rest hy
  have hst := Dc.step_still h hy
  unfold doS
  split
  · unfold Dc.set
    rw [hst]
    split
    · show (Dc.every _ _).pos = 0; rw [(every_len _ _).2.2]; exact hp
    · show (Dc.lay _ _ _).pos = 0
      rw [(lay_len2 _ _ _).2.2]
      unfold Dc.grow
      split
      · rfl
      · split
        · rfl
        · exact hp
  · split
    · rw [hst]; exact hp
    · split
      · unfold Dc.delete
        rw [hst]
        split
        · show (Dc.shrink _ _).pos = 0
          unfold Dc.shrink
          split
          · rfl
          · rw [(every_len _ _).2.2]; exact hp
        · exact hp
      · split
        · rfl
        · exact hp
theorem same_of {h : ByteArray → Nat} {s : Dc.St ByteArray Int} {o : Stp} (h3 : 3 < o.op) : doS h s o = s := by
  unfold doS
  rw [if_neg (by omega), if_neg (by omega), if_neg (by omega), if_neg (by omega)]
theorem steps_snoc {h : ByteArray → Nat} (n : Nat) : ∀ s : Dc.St ByteArray Int, Dc.steps h (n + 1) s = Dc.step h (Dc.steps h n s) := by
  induction n with
  | zero => intro s; rfl
  | succ n ih => intro s; show Dc.steps h (n + 1) (Dc.step h s) = Dc.step h (Dc.steps h n (Dc.step h s)); exact ih _
/-- as many calls of Get as old has buckets -/
theorem ends_of {h : ByteArray → Nat} {s : Dc.St ByteArray Int} (hI : Dc.Inv h s) : (Dc.steps h s.old.length s).young.length = 0 ∧ (Dc.steps h s.old.length s).pos = 0 ∧ (s.young.length = 0 → (Dc.steps h s.old.length s).old.length = s.old.length) ∧ (0 < s.young.length → (Dc.steps h s.old.length s).old.length = s.young.length) := by
  by_cases hy : s.young = []
  · rw [Dc.steps_still h _ hy]
    exact ⟨by rw [hy]; rfl, hI.rest hy, fun _ => rfl, fun h0 => by rw [hy] at h0; simp at h0⟩
  · have hyl : 0 < s.young.length := by cases hs : s.young with | nil => exact absurd hs hy | cons _ _ => simp
    obtain ⟨a, b, c⟩ := Dc.steps_end s.old.length hI hy (by omega)
    exact ⟨by rw [a]; rfl, b, fun h0 => by omega, fun _ => c⟩
theorem pos_le {h : ByteArray → Nat} {N : Nat} {s : Dc.St ByteArray Int} (hO : Okd h N s) : s.pos ≤ 2 * N + 4 := by
  by_cases hy : s.young = []
  · rw [hO.1.rest hy]; omega
  · have := hO.1.move hy; have := hO.2.2.2.1; omega
set_option maxRecDepth 100000 in
set_option maxHeartbeats 4000000 in
theorem little_walk {h : ByteArray → Nat} (W : World) (seed : Nat) (hH : HashIs seed h) (so : Option Addr) (cs : Nat) (S : List Stp) (hS : Steps W so S) (hn : S.length ≤ 2513169434844) (key : ByteArray) (hky : key.size ≤ maxLen) :
    Calls Try.prog 6 #[.int .u64 seed, .slice so S.length cs, .string key] W fun e w' => e = .returned (.bool true) ∧ Below W.heap.size W w' := by
  obtain ⟨L, hL⟩ : ∃ L, S.length = L := ⟨_, rfl⟩
  rw [hL] at hn ⊢
  have HL := keep hL
  have HS := keep hS
  clear hL hS
  go_enter Try.func6, Try.ntmps6
  go_wp2_with fail
  refine (wakes_any _).mono ?_
  rintro _ w0 ⟨rfl, hb0⟩
  go_wp2_with fail
  refine (new_any h w0 seed 0).mono ?_
  rintro _ w1 ⟨rfl, hb1, hz1, hd1⟩
  have HB := keep (both_new hb0 hb1 hd1)
  generalize (fun k => if k = w0.heap.size then (5, 0) else (0, 0) : Roles) = r0 at HB
  obtain ⟨b, hb⟩ : ∃ x, x = w0.heap.size := ⟨_, rfl⟩
  rw [← hb] at HB ⊢
  clear hb0 hb1 hz1 hd1 hb
  go_wp2
  go_loopw [8, 31] (fun u8 i wr => ∃ k : Nat, k ≤ L ∧ i = .int .i64 k ∧ ∃ r s l, u8 = u8 ∧ Kept (Both h k W wr r b seed s u8 l)) (fun _ i _ => L - (intOf i).toNat)
  case atStart => exact ⟨0, Nat.zero_le _, rfl, r0, _, _, rfl, HB⟩
  case round =>
    obtain ⟨k, hk, rfl, r, s, l, _, PB0⟩ := hrel
    by_cases hlt : k < L
    · have hltz : (k : Int) < (L : Int) := by omega
      obtain ⟨a, rfl, hab, hkyo, _, hst0⟩ := HS.out k (by rw [HL.out]; exact hlt)
      have hst := hst0.bel PB0.out.2.2.2.2.1 (by rw [add_block]; exact hab)
      clear hst0
      generalize S[k]'(by rw [HL.out]; exact hlt) = o at hst hkyo
      have hnew := stp_box wr o
      have hbx := (Below.refl wr.heap.size wr).alloc (Nat.le_refl _) (.cells o.cells 33)
      have PB := keep (PB0.out.below hbx)
      have hH0 : r wr.heap.size = (0, 0) := Classical.byContradiction fun hh => by have := PB0.out.1.1.1 _ hh; omega
      have hlv0 : ∀ x, u8.ownBlock = some x → x < wr.heap.size := fun x hx => own_lt PB0.out.2.2.1 hx
      have hN1 : k + 1 ≤ 2600000000000 := by omega
      have HNEW := keep hnew
      have HPB : Kept (s.pos ≤ 2 * k + 4) := pos_le PB0.out.1.2
      have hHl : wr.heap.size < (wr.alloc (.cells o.cells 33)).heap.size := by simp
      have LIT := keep (fun hy h3 => lit_of PB0.out.1.2.1 hy o h3)
      have STL := keep (fun hy => still_of PB0.out.1.2.1 hy o)
      have SAM := keep (fun h3 => same_of (h := h) (s := s) (o := o) h3)
      obtain ⟨t0, t1, t2, t3, t4, t5⟩ := hst
      have mZ := sizes_any _ r b seed _ s PB.out.1.1
      have mD := fun q => does_any hH ((wr.alloc (.cells o.cells 33)).drewN q) r b s u8 l o (PB.out.1.below (below_drewN (Below.refl _ _) q)) hN1 hkyo PB.out.2.1 (PB.out.2.2.1.kept (fun _ _ => rfl)) PB.out.2.2.2.1
      have HDN := keep (fun q e w' hh => (PB.out.below (below_drewN (Below.refl _ _) q)).done (o := o) (e := e) (w' := w') hh)
      have HOP : Kept (∀ w' : World, w'.heap[wr.heap.size]? = (wr.alloc (.cells o.cells 33)).heap[wr.heap.size]? → w'.cell? ⟨wr.heap.size, 1, none⟩ = some (.int .i64 o.op)) := fun w' hh => (World.cell?_of_block (w := wr.alloc (.cells o.cells 33)) (a := ⟨wr.heap.size, 1, none⟩) hh).trans HNEW.out.2.1
      have HR7 : Kept (role r u8 (7, 0) wr.heap.size = (0, 0)) := role_zero.2 ⟨fun e => by have := hlv0 _ e; omega, hH0⟩
      clear hnew hbx PB0 HNEW hH0 hlv0
      have hop : (wr.alloc (.cells o.cells 33)).cell? ⟨wr.heap.size, 1, none⟩ = some (.int .i64 o.op) := HOP.out _ rfl
      obtain ⟨who, op, nn, v, ky, R⟩ := o
      unfold Stp.cells at mZ mD PB HOP hop HDN hHl
      dsimp only at t0 t1 t2 t3 t4 t5 mZ mD PB HOP hop HDN hHl
      have hbxc : ∀ (i : Nat) (hi : i < 6), (wr.alloc (.cells #[.int .i64 who, .int .i64 op, .int .i64 nn, .int .i64 v, .string ky, .int .u64 R] 33)).cell? ⟨wr.heap.size, i, none⟩ = some (#[Value.int .i64 who, .int .i64 op, .int .i64 nn, .int .i64 v, .string ky, .int .u64 R][i]'hi) := fun i hi => by
        rw [cell_of_row _ _ _ _ _ _ (heap_alloc_new _ _)]; exact Array.getElem?_eq_getElem hi
      have b0 := hbxc 0 (by omega)
      have b2 := hbxc 2 (by omega)
      have b3 := hbxc 3 (by omega)
      have b4 := hbxc 4 (by omega)
      have b5 := hbxc 5 (by omega)
      clear hbxc
      obtain ⟨W1, hW1⟩ : ∃ W1, wr.alloc (.cells #[.int .i64 who, .int .i64 op, .int .i64 nn, .int .i64 v, .string ky, .int .u64 R] 33) = W1 := ⟨_, rfl⟩
      obtain ⟨X, hX⟩ : ∃ x, wr.heap.size = x := ⟨_, rfl⟩
      rw [hW1] at mZ mD PB HOP hop HDN b0 b2 b3 b4 b5 hHl
      rw [hX] at HOP hop b0 b2 b3 b4 b5 HR7 hHl
      obtain ⟨wo, hwo⟩ : ∃ x, x = wr := ⟨_, rfl⟩
      subst hwo
      go_wp2_with fail
      refine mZ.mono ?_
      rintro _ w2 ⟨rfl, q, hw2⟩
      subst hw2
      clear mZ
      go_wp2_with fail
      refine (mD q).mono ?_
      rintro e w3 hDone
      have hX3 : w3.heap[X]? = W1.heap[X]? := by obtain ⟨_, _, _, _, _, _, _, _, h6⟩ := hDone; exact (h6.2.2 X hHl HR7.out).1
      obtain ⟨lv', l', r', he, hB3⟩ := HDN.out q e w3 hDone
      subst he
      have HB3 := keep hB3
      have mZ := sizes_any _ r' b seed _ _ hB3.1.1
      have HOP3 := keep (HOP.out w3 hX3)
      clear mD HDN hDone hB3 HOP hop PB HR7 hHl b0 b2 b3 b4 b5
      go_wp2_with fail
      refine mZ.mono ?_
      rintro _ w4 ⟨rfl, q2, hw4⟩
      have HB4 : Kept (Both h (k + 1) W w4 r' b seed (doS h s ⟨who, op, nn, v, ky, R⟩) lv' l') := by rw [hw4]; exact HB3.out.below (below_drewN (Below.refl _ _) q2)
      have hop4 : w4.cell? ⟨X, 1, none⟩ = some (.int .i64 op) := by rw [hw4]; exact HOP3.out
      clear hw4 HB3 HOP3 mZ
      have hA : s.young = [] ∨ 0 < s.young.length := by cases hs : s.young with | nil => exact .inl rfl | cons _ _ => exact .inr (by simp)
      obtain ⟨s', hs'⟩ : ∃ s', doS h s ⟨who, op, nn, v, ky, R⟩ = s' := ⟨_, rfl⟩
      rw [hs'] at HB4 LIT STL SAM
      rw [hs']
      have LIT : Kept (s.young ≠ [] → op ≠ 3 → Lit s s') := LIT
      have SAM : Kept (3 < op → s' = s) := SAM
      clear hs'
      rcases hA with hy0 | hy0
      · have hp0 := STL.out hy0
        have hyl : s.young.length = 0 := by rw [hy0]; rfl
        clear hy0
        by_cases h3 : 3 < op
        · have e := SAM.out h3
          subst e
          have d3 : decide (3 < op) = true := decide_eq_true h3
          clear LIT STL SAM
          rw [hyl, hp0]
          go_wp2
          go_roundw
          case measure => simp [intOf]; omega
          case rel => exact ⟨k + 1, by omega, by go_num, _, _, _, trivial, HB4⟩
        · have d3 : decide (3 < op) = false := decide_eq_false h3
          clear LIT STL SAM
          rw [hyl, hp0]
          go_wp2
          go_roundw
          case measure => simp [intOf]; omega
          case rel => exact ⟨k + 1, by omega, by go_num, _, _, _, trivial, HB4⟩
      · have hyne : s.young ≠ [] := fun e => by rw [e] at hy0; simp at hy0
        have hyb : ((s.young.length : Int) == 0) = false := beq_eq_false_iff_ne.2 (by omega)
        have hyd : decide (0 < s.young.length) = true := decide_eq_true hy0
        by_cases o3 : op = 3
        · subst o3
          clear LIT STL SAM
          go_wp2
          go_roundw
          case measure => simp [intOf]; omega
          case rel => exact ⟨k + 1, by omega, by go_num, _, _, _, trivial, HB4⟩
        · have o3b : (op == 3) = false := beq_eq_false_iff_ne.2 o3
          have hlit := LIT.out hyne o3
          clear LIT STL
          by_cases ha : s'.old.length = s.old.length
          · by_cases hb : s'.young.length = s.young.length
            · have hpp : s.pos ≤ s'.pos ∧ s'.pos ≤ s.pos + 11 := by
                rcases hlit with h' | h'
                · exact absurd hb h'
                · exact h'
              have l1 : ¬ (s'.pos : Int) < (s.pos : Int) := by omega
              have l2 : ¬ (s.pos : Int) + 11 < (s'.pos : Int) := by omega
              have dl1 : decide (s'.pos < s.pos) = false := decide_eq_false (by omega)
              have dl2 : decide (s.pos + 11 < s'.pos) = false := decide_eq_false (by omega)
              have hpb : s.pos ≤ 6000000000000 := by have := HPB.out; omega
              have hww : IntKind.i64.wrap ((s.pos : Int) + 11) = (s.pos : Int) + 11 := by rw [IntKind.wrap_i64]; omega
              by_cases h3 : 3 < op
              · have e := SAM.out h3
                subst e
                have d3 : decide (3 < op) = true := decide_eq_true h3
                clear SAM hlit
                go_wp2
                go_roundw
                case measure => simp [intOf]; omega
                case rel => exact ⟨k + 1, by omega, by go_num, _, _, _, trivial, HB4⟩
              · have d3 : decide (3 < op) = false := decide_eq_false h3
                clear SAM hlit
                rw [ha, hb]
                go_wp2
                go_roundw
                case measure => simp [intOf]; omega
                case rel => exact ⟨k + 1, by omega, by go_num, _, _, _, trivial, HB4⟩
            · have hb2 : ((s'.young.length : Int) == (s.young.length : Int)) = false := beq_eq_false_iff_ne.2 (by omega)
              have h3 : ¬ 3 < op := fun h3 => hb (by rw [SAM.out h3])
              have d3 : decide (3 < op) = false := decide_eq_false h3
              clear SAM hlit
              rw [ha]
              go_wp2
              go_roundw
              case measure => simp [intOf]; omega
              case rel => exact ⟨k + 1, by omega, by go_num, _, _, _, trivial, HB4⟩
          · have ha2 : ((s'.old.length : Int) == (s.old.length : Int)) = false := beq_eq_false_iff_ne.2 (by omega)
            have h3 : ¬ 3 < op := fun h3 => ha (by rw [SAM.out h3])
            have d3 : decide (3 < op) = false := decide_eq_false h3
            clear SAM hlit
            go_wp2
            go_roundw
            case measure => simp [intOf]; omega
            case rel => exact ⟨k + 1, by omega, by go_num, _, _, _, trivial, HB4⟩
    · have hltz : ¬ (k : Int) < (L : Int) := by omega
      have mZ := sizes_any _ r b seed _ s PB0.out.1.1
      have hkk : k ≤ 2513169434844 := by omega
      have hob : s.old.length ≤ 5100000000000 := by have := PB0.out.1.2.2.2.2.1; omega
      obtain ⟨wo, hwo⟩ : ∃ x, x = wr := ⟨_, rfl⟩
      subst hwo
      go_wp2_with fail
      refine mZ.mono ?_
      rintro _ w2 ⟨rfl, q, hw2⟩
      have HB2 : Kept (Both h k W w2 r b seed s u8 l) := by rw [hw2]; exact PB0.out.below (below_drewN (Below.refl _ _) q)
      clear hw2 PB0 mZ HS
      go_wp2
      go_loopw [119] (fun i wr => ∃ j : Nat, j ≤ s.old.length ∧ i = .int .i64 j ∧ ∃ r', Kept (Dd h k wr r' b seed (Dc.steps h j s)) ∧ Kept (Below W.heap.size W wr) ∧ Kept (∀ x, x < W.heap.size → r' x = (0, 0))) (fun i _ => s.old.length - (intOf i).toNat)
      case atStart => exact ⟨0, Nat.zero_le _, rfl, r, HB2.out.1, HB2.out.2.2.2.2.1, fun x hx => (role_zero.1 (HB2.out.2.2.2.2.2 x hx)).2⟩
      case round =>
        obtain ⟨j, hj, rfl, r', QD, QB, QR⟩ := hrel
        by_cases hjl : j < s.old.length
        · have hjz : (j : Int) < (s.old.length : Int) := by omega
          have mG := get_any hH wr r' b _ key QD.out (by omega) hky
          obtain ⟨wo, hwo⟩ : ∃ x, x = wr := ⟨_, rfl⟩
          subst hwo
          go_wp2_with fail
          refine mG.mono ?_
          rintro _ w3 ⟨rfl, r3, hd3, hf3⟩
          have H3 := keep hd3
          have HB3 := keep (QB.out.trans (hf3.below QB.out.size QR.out))
          have HR3 : Kept (∀ x, x < W.heap.size → r3 x = (0, 0)) := fun x hx => (hf3.2.2 x (Nat.lt_of_lt_of_le hx QB.out.size) (QR.out x hx)).2
          clear mG hd3 hf3
          go_wp2
          go_roundw
          case measure => simp [intOf]; omega
          case rel => exact ⟨j + 1, by omega, by go_num, r3, by rw [steps_snoc]; exact H3, HB3, HR3⟩
        · have hjz : ¬ (j : Int) < (s.old.length : Int) := by omega
          have hjj : j = s.old.length := by omega
          subst hjj
          obtain ⟨e1, e2, e3, e4⟩ := ends_of HB2.out.1.2.1
          have mZ := sizes_any _ r' b seed _ _ QD.out.1
          rw [e1, e2] at mZ
          obtain ⟨wo, hwo⟩ : ∃ x, x = wr := ⟨_, rfl⟩
          subst hwo
          by_cases hy0 : s.young.length = 0
          · rw [e3 hy0] at mZ
            clear e1 e2 e3 e4
            have hyb : ((s.young.length : Int) == 0) = true := by rw [hy0]; rfl
            go_wp2_with fail
            refine mZ.mono ?_
            rintro _ w4 ⟨rfl, q4, hw4⟩
            have HB4 : Kept (Below W.heap.size W w4) := by rw [hw4]; exact below_drewN QB.out q4
            clear hw4 mZ
            go_wp2
            go_ret
            exact ⟨rfl, HB4.out⟩
          · rw [e4 (by omega)] at mZ
            clear e1 e2 e3 e4
            have hyb : ((s.young.length : Int) == 0) = false := beq_eq_false_iff_ne.2 (by omega)
            have hyp : 0 < s.young.length := by omega
            have hyd : decide (0 < s.young.length) = true := decide_eq_true hyp
            have hyz : (0 : Int) < (s.young.length : Int) := by omega
            go_wp2_with fail
            refine mZ.mono ?_
            rintro _ w4 ⟨rfl, q4, hw4⟩
            have HB4 : Kept (Below W.heap.size W w4) := by rw [hw4]; exact below_drewN QB.out q4
            clear hw4 mZ
            go_wp2
            go_ret
            exact ⟨rfl, HB4.out⟩
end Go.Proofs.Ytbcmahhpdpdmcaa
