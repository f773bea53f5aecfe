/-
  Contracts over this program: Union of the document's own flocks, some of them none.
-/
import Derived.Test.YtlfpkbjiofelkaaGreatRd9
import Derived.Test.YtlfpkbjiofelkaaGreatFlMath
/-
  The document's own flock in the memory: its struct, its rising row, its dict. Contracts over this program: New, Len, place, in.
-/
namespace Go.Proofs.YtlfpkbjiofelkaaGreat
open Go.RowKit Go.Shelf
set_option linter.unusedVariables false
set_option linter.unusedSimpArgs false
set_option maxRecDepth 100000
namespace Rd
abbrev Sf : Type := Dc.St ByteArray Unit
/-- a row of texts rises -/
def Rise (l : List ByteArray) : Prop := l.Pairwise (fun a b => ky a < ky b)
/-- the roles of a dict's blocks, of the flock's own one (8) and of its row (9) -/
def rf (r : Roles) (R : Nat) (v : Value) : Roles := fun k => if k = R then (8, 0) else if v.ownBlock = some k then (9, 0) else r k
theorem rf_zero {r : Roles} {R k : Nat} {v : Value} : rf r R v k = (0, 0) ↔ k ≠ R ∧ v.ownBlock ≠ some k ∧ r k = (0, 0) := by
  unfold rf
  by_cases h : k = R
  · rw [if_pos h]; simp [h]
  · rw [if_neg h]
    by_cases h' : v.ownBlock = some k
    · rw [if_pos h']; simp [h']
    · rw [if_neg h']; simp [h, h']
/-- a flock's memory: its own block R, its row v, its dict in block b -/
def RFm (h : ByteArray → Nat) (N : Nat) (w : World) (r : Roles) (R b seed : Nat) (v : Value) (l : List ByteArray) (s : Sf) (KV : List (ByteArray × Int)) : Prop :=
  Rdd h N w r b seed s KV ∧ r R = (0, 0) ∧ w.heap[R]? = some (.cells #[.int .u64 seed, v, .pointer (some ⟨b, 0, none⟩)] 60 (0, 0)) ∧ Tx w v l ∧ ∀ k, v.ownBlock = some k → r k = (0, 0) ∧ k ≠ R
/-- the document's own flock between calls -/
def RF (h : ByteArray → Nat) (N : Nat) (w : World) (r : Roles) (R b seed : Nat) (v : Value) (l : List ByteArray) (s : Sf) (KV : List (ByteArray × Int)) : Prop :=
  RFm h N w r R b seed v l s KV ∧ Rise l ∧ l.Perm (Dc.keys KV)
theorem Rdd.kept {V : Type} {h : ByteArray → Nat} {N : Nat} {w w' : World} {r : Roles} {b seed : Nat} {s : Dc.St ByteArray V} {KV : List (ByteArray × Int)} (hd : Rdd h N w r b seed s KV) (hs : w.heap.size ≤ w'.heap.size) (hk : ∀ k, k < w.heap.size → r k ≠ (0, 0) → w'.heap[k]? = w.heap[k]?) : Rdd h N w' r b seed s KV := ⟨hd.1.kept hs hk, hd.2⟩
theorem Rdd.more {V : Type} {h : ByteArray → Nat} {N N' : Nat} {w : World} {r : Roles} {b seed : Nat} {s : Dc.St ByteArray V} {KV : List (ByteArray × Int)} (hd : Rdd h N w r b seed s KV) (hN : N ≤ N') : Rdd h N' w r b seed s KV := ⟨hd.1, hd.2.1.more hN, hd.2.2⟩
theorem bup {w w1 w2 : World} (h : Below w.heap.size w w1) (g : Below w1.heap.size w1 w2) : Below w.heap.size w w2 := ⟨g.os.trans h.os, g.tape.trans h.tape, g.output.trans h.output, Nat.le_trans h.size g.size, fun k hk => (g.block k (Nat.lt_of_lt_of_le hk h.size)).trans (h.block k hk)⟩
section
variable {h : ByteArray → Nat} {N N' : Nat} {w w' : World} {r r' : Roles} {R b seed : Nat} {v : Value} {l : List ByteArray} {s s' : Sf} {KV KV' : List (ByteArray × Int)}
theorem tri {v0 v1 v2 : Value} {t : TypeId} (h : w.heap[b]? = some (.cells #[v0, v1, v2] t (0, 0))) :
    w.cell? ⟨b, 0, none⟩ = some v0 ∧ w.cell? ⟨b, 1, none⟩ = some v1 ∧ w.cell? ⟨b, 2, none⟩ = some v2 ∧ ∀ i, w.frozen? ⟨b, i, none⟩ = false := by
  refine ⟨?_, ?_, ?_, fun i => ?_⟩ <;> simp [World.cell?, World.frozen?, h]
theorem RFm.lt (hf : RFm h N w r R b seed v l s KV) : R < w.heap.size := (Array.getElem?_eq_some_iff.1 hf.2.2.1).1
theorem RFm.row {k : Nat} (hf : RFm h N w r R b seed v l s KV) (e : v.ownBlock = some k) : k < w.heap.size := own_lt hf.2.2.2.1 e
theorem RFm.kept (hf : RFm h N w r R b seed v l s KV) (hs : w.heap.size ≤ w'.heap.size) (hk : ∀ k, k < w.heap.size → rf r R v k ≠ (0, 0) → w'.heap[k]? = w.heap[k]?) : RFm h N w' r R b seed v l s KV := by
  refine ⟨hf.1.kept hs (fun k h1 h2 => hk k h1 (fun e => h2 (rf_zero.1 e).2.2)), hf.2.1, ?_, hf.2.2.2.1.kept (fun k e => hk k (hf.row e) (fun e' => (rf_zero.1 e').2.1 e)), hf.2.2.2.2⟩
  rw [hk R hf.lt (fun e => (rf_zero.1 e).1 rfl)]
  exact hf.2.2.1
theorem RFm.below (hf : RFm h N w r R b seed v l s KV) (hb : Below w.heap.size w w') : RFm h N w' r R b seed v l s KV := hf.kept hb.size (fun k hk _ => hb.block k hk)
theorem RF.kept (hf : RF h N w r R b seed v l s KV) (hs : w.heap.size ≤ w'.heap.size) (hk : ∀ k, k < w.heap.size → rf r R v k ≠ (0, 0) → w'.heap[k]? = w.heap[k]?) : RF h N w' r R b seed v l s KV := ⟨hf.1.kept hs hk, hf.2⟩
theorem RF.below (hf : RF h N w r R b seed v l s KV) (hb : Below w.heap.size w w') : RF h N w' r R b seed v l s KV := ⟨hf.1.below hb, hf.2⟩
theorem RF.more (hf : RF h N w r R b seed v l s KV) (hN : N ≤ N') : RF h N' w r R b seed v l s KV := ⟨⟨hf.1.1.more hN, hf.1.2⟩, hf.2⟩
/-- what the dict's own blocks do, the flock's own ones standing -/
theorem RFm.dict (hf : RFm h N w r R b seed v l s KV) (hd : Rdd h N' w' r' b seed s' KV') (hF : Fr w r w' r') : RFm h N' w' r' R b seed v l s' KV' ∧ Fr w (rf r R v) w' (rf r' R v) := by
  obtain ⟨h1, h2, h3, h4, h5⟩ := id hf
  obtain ⟨k1, k2⟩ := hF.2.2 R hf.lt h2
  refine ⟨⟨hd, k2, k1.trans h3, h4.kept (fun k e => (hF.2.2 k (hf.row e) (h5 k e).1).1), fun k e => ⟨(hF.2.2 k (hf.row e) (h5 k e).1).2, (h5 k e).2⟩⟩, hF.1, hF.2.1, fun k hk hz => ?_⟩
  obtain ⟨z1, z2, z3⟩ := rf_zero.1 hz
  obtain ⟨q1, q2⟩ := hF.2.2 k hk z3
  exact ⟨q1, rf_zero.2 ⟨z1, z2, q2⟩⟩
theorem RF.few (hf : RF h N w r R b seed v l s KV) : l.length = KV.length := by rw [hf.2.2.length_eq]; simp [Dc.keys]
set_option maxHeartbeats 1000000 in
theorem rfnew_any (h : ByteArray → Nat) (w : World) (seed N : Nat) :
    Calls Tryz.prog 6 #[.int .u64 seed] w fun e w' => ∃ R r b, e = .returned (.pointer (some ⟨R, 0, none⟩)) ∧ Below w.heap.size w w' ∧ RF h N w' r R b seed (.slice none 0 0) [] Dc.none0 [] ∧ ∀ k, rf r R (.slice none 0 0) k ≠ (0, 0) → w.heap.size ≤ k := by
  have mN := keep (new_any (V := Unit) h w seed N)
  go_enter Tryz.func6, Tryz.ntmps6
  go_wp2_with fail
  refine mN.out.mono ?_
  rintro _ w1 ⟨rfl, hb, r, hd, hr⟩
  have HD : Kept (∀ W, w1.alloc (.cells #[.int .u64 seed, .slice none 0 0, .pointer (some ⟨w.heap.size, 0, none⟩)] 60) = W → Below w.heap.size w W ∧ RF h N W r w1.heap.size w.heap.size seed (.slice none 0 0) [] Dc.none0 [] ∧ ∀ k, rf r w1.heap.size (.slice none 0 0) k ≠ (0, 0) → w.heap.size ≤ k) := fun W hW => by
    have hb1 : Below w1.heap.size w1 W := by rw [← hW]; exact (Below.refl _ w1).alloc (Nat.le_refl _) _
    have hR : r w1.heap.size = (0, 0) := Classical.byContradiction fun hne => by have := hd.1.1 _ hne; omega
    refine ⟨bup hb hb1, ⟨⟨hd.kept hb1.size (fun k hk _ => hb1.block k hk), hR, by rw [← hW]; exact heap_alloc_new _ _, ⟨rfl, .inl ⟨rfl, rfl⟩⟩, fun k e => by cases e⟩, List.Pairwise.nil, by simp [Dc.keys]⟩, fun k hk => ?_⟩
    unfold rf at hk
    by_cases e : k = w1.heap.size
    · rw [e]; exact hb.size
    · rw [if_neg e, if_neg (by intro e'; cases e')] at hk
      rw [hr k hk]; exact Nat.le_refl _
  clear hb hd hr mN
  go_wp2
  go_ret
  exact ⟨_, r, _, rfl, HD.out _ rfl⟩
set_option maxHeartbeats 1000000 in
theorem rflen_any (hf : RFm h N w r R b seed v l s KV) :
    Calls Tryz.prog 34 #[.pointer (some ⟨R, 0, none⟩)] w fun e w' => e = .returned (.int .i64 (l.length : Int)) ∧ w' = w := by
  obtain ⟨o, c, rfl, _⟩ := hf.2.2.2.1.form
  obtain ⟨c0, c1, c2, cf⟩ := tri hf.2.2.1
  clear hf c0 c2 cf
  generalize l.length = n at *
  go_enter Tryz.func34, Tryz.ntmps34
  go_wp2
  go_ret
  exact ⟨rfl, rfl⟩
/-- so many stand ahead of a text; o: it is one -/
def Plc (l : List ByteArray) (x : ByteArray) (i : Nat) (o : Bool) : Prop :=
  (∀ t y, t < i → l[t]? = some y → ky y < ky x) ∧ ((i = l.length ∧ o = false) ∨ ∃ y, l[i]? = some y ∧ ¬ ky y < ky x ∧ o = decide (y = x))
/-- what place answers, and in -/
def PlcE (w : World) (l : List ByteArray) (x : ByteArray) (e : Ending) (w' : World) : Prop := (∃ i o, e = .returned (.tuple #[.int .i64 ((i : Nat) : Int), .bool o]) ∧ Plc l x i o) ∧ w' = w
def InE (w : World) (l : List ByteArray) (x : ByteArray) (e : Ending) (w' : World) : Prop := (∃ i o, e = .returned (.bool o) ∧ Plc l x i o) ∧ w' = w
theorem tl_ky (x : ByteArray) : x.toList = ky x := by rw [ByteArray.toList_eq]; rfl
set_option maxHeartbeats 2000000 in
theorem place10_any (x : ByteArray) (hf : RFm h N w r R b seed v l s KV) (hn : l.length ≤ 2600000000000) :
    Calls Tryz.prog 42 #[.pointer (some ⟨R, 0, none⟩), .string x] w (PlcE w l x) := by
  obtain ⟨o, c, rfl, hao⟩ := hf.2.2.2.1.form
  obtain ⟨c0, c1, c2, cf⟩ := tri hf.2.2.1
  have HT := keep hf.2.2.2.1
  obtain ⟨n, hln⟩ : ∃ n, l.length = n := ⟨_, rfl⟩
  rw [hln] at c1 hn HT hao
  have HL := keep hln
  have HN := keep hn
  have HAO := keep hao
  generalize hQd : PlcE w l x = Q
  have HQ : Kept (∀ (i : Nat) (o : Bool) w', Plc l x i o → w' = w → Q (.returned (.tuple #[.int .i64 (i : Int), .bool o])) w') := by rw [← hQd]; exact fun i o w' h1 h2 => ⟨⟨i, o, rfl, h1⟩, h2⟩
  clear hQd
  clear hf c0 c2 cf hln hn hao
  go_enter Tryz.func42, Tryz.ntmps42
  go_wp2
  go_loopg [13] n (fun kx s12 wr => ∃ i : Nat, s12 = .int .i64 i ∧ i ≤ n ∧ n - i ≤ kx ∧ Kept (wr = w) ∧ Kept (∀ t y, t < i → l[t]? = some y → ky y < ky x))
  case atStart => exact ⟨0, rfl, Nat.zero_le _, by omega, rfl, fun t x ht => absurd ht (Nat.not_lt_zero _)⟩
  case round =>
    obtain ⟨i, rfl, hin, hg, EW, I⟩ := hrel
    obtain rfl : wr = w := EW.out
    by_cases hlt : i < n
    · obtain ⟨y, hy⟩ : ∃ y, l[i]? = some y := ⟨_, List.getElem?_eq_getElem (by have := HL.out; omega)⟩
      obtain ⟨g, hg'⟩ := HAO.out (by omega)
      subst hg'
      have e0 := HT.out.at (j := i) (x := y) hy
      have i0 : (0 : Int) ≤ (i : Int) := by omega
      have i1 : (i : Int) < (n : Int) := by omega
      have hwi : IntKind.i64.wrap ((i : Int) + 1) = (i : Int) + 1 := by have := HN.out; rw [IntKind.wrap_i64]; omega
      have HX := keep hy
      clear hy
      cases hq : Op.bytesLess y.toList x.toList
      · have hle : ¬ ky y < ky x := by rw [less_is, tl_ky, tl_ky] at hq; exact of_decide_eq_false hq
        have HLE := keep hle
        clear hle
        cases hq2 : (y.toList == x.toList)
        · have HF := keep (HQ.out i false wr ⟨I.out, .inr ⟨y, HX.out, HLE.out, by
            rw [eq_comm, decide_eq_false_iff_not]; intro e; rw [e] at hq2; simp at hq2⟩⟩ rfl)
          go_wp2
          first | exact HF.out | (refine bodyPost_ret (results_tmp2 rfl _ _ _) rfl ?_; exact HF.out)
        · have HF := keep (HQ.out i true wr ⟨I.out, .inr ⟨y, HX.out, HLE.out, by
            rw [eq_comm, decide_eq_true_iff]; exact tl_inj' (beq_iff_eq.1 hq2)⟩⟩ rfl)
          go_wp2
          first | exact HF.out | (refine bodyPost_ret (results_tmp2 rfl _ _ _) rfl ?_; exact HF.out)
      · have I' : Kept (∀ t y, t < i + 1 → l[t]? = some y → ky y < ky x) := fun t z ht hz => by
          rcases Nat.lt_or_ge t i with h' | h'
          · exact I.out t z h' hz
          · obtain rfl : t = i := by omega
            rw [HX.out] at hz
            cases hz
            rw [less_is, tl_ky, tl_ky] at hq
            exact of_decide_eq_true hq
        go_wp2
        go_roundg (n - (i + 1))
        case measure => omega
        case rel => exact ⟨i + 1, by simp, by omega, Nat.le_refl _, rfl, I'.out⟩
    · obtain rfl : i = n := by omega
      have HF := keep (HQ.out i false wr ⟨I.out, .inl ⟨HL.out.symm, rfl⟩⟩ rfl)
      go_wp2
      first | exact HF.out | (refine bodyPost_ret (results_tmp2 rfl _ _ _) rfl ?_; exact HF.out)
set_option maxHeartbeats 1000000 in
theorem in_any (x : ByteArray) (hf : RFm h N w r R b seed v l s KV) (hn : l.length ≤ 2600000000000) :
    Calls Tryz.prog 73 #[.pointer (some ⟨R, 0, none⟩), .string x] w (InE w l x) := by
  have MP := keep (place10_any x hf hn)
  clear hf hn
  go_enter Tryz.func73, Tryz.ntmps73
  go_wp2_with fail
  refine MP.out.mono ?_
  rintro _ w2 ⟨⟨i, o, rfl, hp⟩, hw⟩
  obtain rfl := hw.symm
  have HP := keep hp
  clear hp MP
  have HD : Kept (InE w l x (.returned (.bool o)) w) := ⟨⟨i, o, rfl, HP.out⟩, rfl⟩
  generalize InE w l x = Q at *
  go_wp2
  first | exact HD.out | (go_ret; exact HD.out)
theorem in_nil (w : World) (x : ByteArray) : Calls Tryz.prog 73 #[.pointer none, .string x] w fun e w' => e = .returned (.bool false) ∧ w' = w := by
  go_enter Tryz.func73, Tryz.ntmps73
  go_wp2
  go_ret
  exact ⟨rfl, rfl⟩
theorem rflen_nil (w : World) : Calls Tryz.prog 34 #[.pointer none] w fun e w' => e = .returned (.int .i64 0) ∧ w' = w := by
  go_enter Tryz.func34, Tryz.ntmps34
  go_wp2
  go_ret
  exact ⟨rfl, rfl⟩
/-- a text is among these -/
def isin (x : ByteArray) (l : List ByteArray) : Bool := l.any (fun y => decide (y = x))
theorem isin_iff {x : ByteArray} : isin x l = true ↔ x ∈ l := by simp [isin]
theorem isin_not {x : ByteArray} : isin x l = false ↔ x ∉ l := by rw [← isin_iff]; simp
/-- where a text stands in a rising row -/
theorem Plc.mem {x : ByteArray} {i : Nat} {o : Bool} (h : Plc l x i o) (hr : Rise l) : o = isin x l := by
  obtain ⟨h1, h2⟩ := h
  have key : ∀ t, l[t]? = some x → i ≤ t := fun t ht => Classical.byContradiction fun hc => List.lt_irrefl _ (h1 t x (by omega) ht)
  rcases h2 with ⟨e, rfl⟩ | ⟨y, hy, hn, rfl⟩
  · rw [eq_comm, isin_not]
    intro hm
    obtain ⟨t, ht⟩ := List.mem_iff_getElem?.1 hm
    have := key t ht
    have := (List.getElem?_eq_some_iff.1 ht).1
    omega
  · have : y = x ↔ x ∈ l := ⟨fun e => e ▸ List.mem_of_getElem? hy, fun hm => by
      obtain ⟨t, ht⟩ := List.mem_iff_getElem?.1 hm
      have h3 := key t ht
      rcases Nat.lt_or_ge i t with h4 | h4
      · obtain ⟨p1, e1⟩ := List.getElem?_eq_some_iff.1 hy
        obtain ⟨p2, e2⟩ := List.getElem?_eq_some_iff.1 ht
        have := (List.pairwise_iff_getElem.1 hr) i t p1 p2 h4
        rw [e1, e2] at this
        exact absurd this hn
      · obtain rfl : t = i := by omega
        rw [hy] at ht
        exact Option.some.inj ht⟩
    by_cases e : y = x
    · rw [isin_iff.2 (this.1 e), decide_eq_true e]
    · rw [isin_not.2 (fun hm => e (this.2 hm)), decide_eq_false e]
end
end Rd
end Go.Proofs.YtlfpkbjiofelkaaGreat

/-
  Contracts over this program: Has, Members, Cost and Sample of the document's own flock.
-/
namespace Go.Proofs.YtlfpkbjiofelkaaGreat
open Go.RowKit Go.Shelf
set_option linter.unusedVariables false
set_option linter.unusedSimpArgs false
set_option maxRecDepth 100000
namespace Rd
section
variable {h : ByteArray → Nat} {N N' : Nat} {w w' : World} {r r' : Roles} {R b seed : Nat} {v : Value} {l : List ByteArray} {s s' : Sf} {KV KV' : List (ByteArray × Int)}
set_option maxHeartbeats 2000000 in
theorem rfhas_any (hH : RHashIs seed h) (x : ByteArray) (hf : RF h N w r R b seed v l s KV) (hN : N ≤ 2600000000000) :
    Calls Tryz.prog 28 #[.pointer (some ⟨R, 0, none⟩), .string x] w fun e w' => e = .returned (.bool (isin x l)) ∧ ∃ r', RF h N w' r' R b seed v l (Dc.step h s) KV ∧ Fr w (rf r R v) w' (rf r' R v) := by
  have MG := keep (get_any hH w r b s KV x hf.1.1 hN)
  obtain ⟨c0, c1, c2, cf⟩ := tri hf.1.2.2.1
  have HL : Kept (l.length ≤ 2600000000000) := by have := hf.few; have := hf.1.1.few; show l.length ≤ _; omega
  have HF := keep hf
  clear hf c0 c1 cf
  go_enter Tryz.func28, Tryz.ntmps28
  go_wp2_with fail
  refine MG.out.mono ?_
  rintro _ w1 ⟨rfl, r1, hd1, hf1⟩
  obtain ⟨q1, q2⟩ := HF.out.1.dict hd1 hf1
  have MP := keep (place10_any x q1 HL.out)
  have Q1 := keep q1
  have Q2 := keep q2
  clear MG hd1 hf1 q1 q2 c2
  go_wp2_with fail
  refine MP.out.mono ?_
  rintro _ w2 ⟨⟨i, o, rfl, hp⟩, hw⟩
  obtain rfl := hw.symm
  have HP := keep hp
  clear hp MP
  go_wp2
  go_ret
  exact ⟨by rw [HP.out.mem HF.out.2.1]; rfl, r1, ⟨Q1.out, HF.out.2⟩, Q2.out⟩
theorem rfhas_nil (w : World) (x : ByteArray) : Calls Tryz.prog 28 #[.pointer none, .string x] w fun e w' => e = .returned (.bool false) ∧ w' = w := by
  go_enter Tryz.func28, Tryz.ntmps28
  go_wp2
  go_ret
  exact ⟨rfl, rfl⟩
theorem mine_nil (w : World) : Mine w (w.alloc (.cells #[] 9)) (.slice (some ⟨w.heap.size, 0, none⟩) 0 0) [] := by
  refine ⟨⟨rfl, .inr ⟨w.heap.size, 0, #[], rfl, Nat.zero_le _, heap_alloc_new _ _, Nat.le_refl _, by unfold maxLen; omega, rfl, rfl⟩⟩, fun k hk => (by cases hk; exact Nat.le_refl _), (Below.refl _ w).alloc (Nat.le_refl _) _⟩
set_option maxHeartbeats 1000000 in
theorem rfmembers_any (hf : RFm h N w r R b seed v l s KV) (hn : l.length ≤ 2600000000000) :
    Calls Tryz.prog 32 #[.pointer (some ⟨R, 0, none⟩)] w fun e w' => ∃ u, e = .returned u ∧ Mine w w' u l := by
  obtain ⟨ao, cp, rfl, _⟩ := hf.2.2.2.1.form
  have h1 := mine_nil w
  obtain ⟨W1, hW1⟩ : ∃ W1, w.alloc (.cells #[] 9) = W1 := ⟨_, rfl⟩
  rw [hW1] at h1
  have hb1 : Below w.heap.size w W1 := h1.2.2
  obtain ⟨v2, W2, a1, m1, _⟩ := mine_app h1 (hf.2.2.2.1.bel hb1) (by simp only [List.length_nil]; omega)
  obtain ⟨o, n, c, rfl⟩ := mine_slice m1
  obtain ⟨c0, c1, c2, cf⟩ := tri (hf.below hb1).2.2.1
  obtain ⟨d0, d1, d2, df⟩ := tri hf.2.2.1
  rw [List.nil_append] at m1
  have A1 := keep a1
  have HD : Kept (∃ u, Ending.returned (.slice o n c) = .returned u ∧ Mine w W2 u l) := ⟨_, rfl, m1⟩
  clear h1 hb1 a1 m1 hf hn c0 c2 cf d0 d2 df
  generalize l.length = n1 at *
  go_enter Tryz.func32, Tryz.ntmps32
  go_wp2_with (at_builtin; refine wpList_app_run rfl _ _ _ _ rfl _ _ _ rfl rfl A1.out ?_)
  go_ret
  exact HD.out
theorem rfmembers_nil (w : World) : Calls Tryz.prog 32 #[.pointer none] w fun e w' => e = .returned (.slice none 0 0) ∧ w' = w := by
  go_enter Tryz.func32, Tryz.ntmps32
  go_wp2
  go_ret
  exact ⟨rfl, rfl⟩
set_option maxHeartbeats 1000000 in
theorem rfsample_none (hf : RFm h N w r R b seed v l s KV) (n : Nat) (hl : l = []) :
    Calls Tryz.prog 30 #[.pointer (some ⟨R, 0, none⟩), .int .u64 n] w fun e w' => e = .returned (.tuple #[.string .empty, .bool false]) ∧ w' = w := by
  have ML := rflen_any hf
  rw [hl] at ML
  have ML := keep ML
  clear hf hl
  go_enter Tryz.func30, Tryz.ntmps30
  go_wp2_with fail
  refine ML.out.mono ?_
  rintro _ w1 ⟨rfl, rfl⟩
  clear ML
  go_wp2
  refine bodyPost_ret (results_tmp2 rfl _ _ _) rfl ?_
  exact ⟨rfl, rfl⟩
theorem rfsample_nil (w : World) (n : Nat) : Calls Tryz.prog 30 #[.pointer none, .int .u64 n] w fun e w' => e = .returned (.tuple #[.string .empty, .bool false]) ∧ w' = w := by
  have ML := keep (rflen_nil w)
  go_enter Tryz.func30, Tryz.ntmps30
  go_wp2_with fail
  refine ML.out.mono ?_
  rintro _ w1 ⟨rfl, rfl⟩
  clear ML
  go_wp2
  refine bodyPost_ret (results_tmp2 rfl _ _ _) rfl ?_
  exact ⟨rfl, rfl⟩
set_option maxHeartbeats 1000000 in
theorem rfsample_at (hf : RFm h N w r R b seed v l s KV) (n : Nat) (hn : l.length ≤ 2600000000000) (x : ByteArray) (hx : l[n % l.length]? = some x) :
    Calls Tryz.prog 30 #[.pointer (some ⟨R, 0, none⟩), .int .u64 n] w fun e w' => e = .returned (.tuple #[.string x, .bool true]) ∧ Below w.heap.size w w' := by
  have ML := keep (rflen_any hf)
  have hlt := (List.getElem?_eq_some_iff.1 hx).1
  obtain ⟨ao, cp, rfl, hao⟩ := hf.2.2.2.1.form
  obtain ⟨g, rfl⟩ := hao (by omega)
  obtain ⟨c0, c1, c2, cf⟩ := tri hf.2.2.1
  have e0 := hf.2.2.2.1.at hx
  clear hf hx c0 c2 cf
  generalize l.length = m at *
  have hp : 0 < m := by omega
  have hm : IntKind.u64.wrap (m : Int) = (m : Int) := by rw [IntKind.wrap_u64]; omega
  have z1 : decide ((m : Int) = 0) = false := decide_eq_false (by omega)
  have z2 : ((m : Int) == 0) = false := by rw [beq_eq_false_iff_ne]; omega
  have z3 : ¬ (m : Int) = 0 := by omega
  obtain ⟨q, hq⟩ : ∃ q, n % m = q := ⟨_, rfl⟩
  have hr : Int.tmod (n : Int) (m : Int) = (q : Int) := by rw [← hq]; exact (Int.ofNat_tmod n m).symm
  have hr' : (n : Int) % (m : Int) = (q : Int) := by rw [← hq]; omega
  have hwq : IntKind.u64.wrap (q : Int) = (q : Int) := by rw [IntKind.wrap_u64]; omega
  rw [hq] at e0 hlt
  have i0 : (0 : Int) ≤ (q : Int) := by omega
  have i1 : (q : Int) < (m : Int) := by omega
  clear hq hao
  go_enter Tryz.func30, Tryz.ntmps30
  go_wp2_with fail
  refine ML.out.mono ?_
  rintro _ w1 ⟨rfl, rfl⟩
  clear ML
  go_wp2_with fail
  go_quiet (fail)
  go_wp2
  refine bodyPost_ret (results_tmp2 rfl _ _ _) rfl ?_
  exact ⟨rfl, below_drewN (Below.refl _ _) nq⟩
end
end Rd
end Go.Proofs.YtlfpkbjiofelkaaGreat

/-
  Contracts over this program: two rising lists merged, by the document's own flocks.
-/
namespace Go.Proofs.YtlfpkbjiofelkaaGreat
open Go.RowKit Go.Shelf
set_option linter.unusedVariables false
set_option linter.unusedSimpArgs false
set_option maxRecDepth 100000
namespace Rd
/-- of two rising lists so many have gone into one -/
structure Mg (a b : List ByteArray) (i k : Nat) (o : List ByteArray) : Prop where
  rise : Rise o
  mem : ∀ x, x ∈ o ↔ x ∈ a.take i ∨ x ∈ b.take k
  fa : ∀ y ∈ o, ∀ z ∈ a.drop i, ky y < ky z
  fb : ∀ y ∈ o, ∀ z ∈ b.drop k, ky y < ky z
  len : o.length ≤ i + k
theorem mg0 (a b : List ByteArray) : Mg a b 0 0 [] := ⟨List.Pairwise.nil, fun x => by simp, fun y hy => by simp at hy, fun y hy => by simp at hy, by simp⟩
theorem rise_snoc {o : List ByteArray} {x : ByteArray} (h : Rise o) (hx : ∀ y ∈ o, ky y < ky x) : Rise (o ++ [x]) := by
  unfold Rise
  rw [List.pairwise_append]
  exact ⟨h, by simp, fun y hy z hz => by simp at hz; subst hz; exact hx y hy⟩
theorem drop_at {a : List ByteArray} {i : Nat} {x : ByteArray} (h : a[i]? = some x) : a.drop i = x :: a.drop (i + 1) := by
  obtain ⟨p, e⟩ := List.getElem?_eq_some_iff.1 h
  rw [List.drop_eq_getElem_cons p, e]
theorem take_at {a : List ByteArray} {i : Nat} {x : ByteArray} (h : a[i]? = some x) : a.take (i + 1) = a.take i ++ [x] := by
  rw [List.take_add_one, h]; rfl
theorem rise_drop {a : List ByteArray} {i : Nat} {x : ByteArray} (hr : Rise a) (h : a[i]? = some x) : ∀ z ∈ a.drop (i + 1), ky x < ky z := by
  have h2 : Rise (a.drop i) := hr.sublist (List.drop_sublist i a)
  rw [drop_at h] at h2
  exact (List.pairwise_cons.1 h2).1
/-- the first list's next goes -/
theorem Mg.left {a b o : List ByteArray} {i k : Nat} {x : ByteArray} (h : Mg a b i k o) (ha : Rise a) (hx : a[i]? = some x) (hb : ∀ z ∈ b.drop k, ky x < ky z) : Mg a b (i + 1) k (o ++ [x]) := by
  have hd := drop_at hx
  refine ⟨rise_snoc h.rise (fun y hy => h.fa y hy x (by rw [hd]; simp)), fun y => ?_, fun y hy z hz => ?_, fun y hy z hz => ?_, by have := h.len; simp; omega⟩
  · rw [take_at hx, List.mem_append, List.mem_append, h.mem y]
    constructor
    · rintro ((h1 | h1) | h1)
      · exact .inl (.inl h1)
      · exact .inr h1
      · exact .inl (.inr h1)
    · rintro ((h1 | h1) | h1)
      · exact .inl (.inl h1)
      · exact .inr h1
      · exact .inl (.inr h1)
  · rcases List.mem_append.1 hy with h1 | h1
    · exact h.fa y h1 z (by rw [hd]; simp [hz])
    · simp at h1; subst h1; exact rise_drop ha hx z hz
  · rcases List.mem_append.1 hy with h1 | h1
    · exact h.fb y h1 z hz
    · simp at h1; subst h1; exact hb z hz
/-- the second list's next goes -/
theorem Mg.right {a b o : List ByteArray} {i k : Nat} {x : ByteArray} (h : Mg a b i k o) (hb : Rise b) (hx : b[k]? = some x) (ha : ∀ z ∈ a.drop i, ky x < ky z) : Mg a b i (k + 1) (o ++ [x]) := by
  have hd := drop_at hx
  refine ⟨rise_snoc h.rise (fun y hy => h.fb y hy x (by rw [hd]; simp)), fun y => ?_, fun y hy z hz => ?_, fun y hy z hz => ?_, by have := h.len; simp; omega⟩
  · rw [take_at hx, List.mem_append, List.mem_append, h.mem y, or_assoc]
  · rcases List.mem_append.1 hy with h1 | h1
    · exact h.fa y h1 z hz
    · simp at h1; subst h1; exact ha z hz
  · rcases List.mem_append.1 hy with h1 | h1
    · exact h.fb y h1 z (by rw [hd]; simp [hz])
    · simp at h1; subst h1; exact rise_drop hb hx z hz
/-- both have the same next one: it goes once -/
theorem Mg.both {a b o : List ByteArray} {i k : Nat} {x : ByteArray} (h : Mg a b i k o) (ha : Rise a) (hb : Rise b) (hxa : a[i]? = some x) (hx : b[k]? = some x) : Mg a b (i + 1) (k + 1) (o ++ [x]) := by
  have hd := drop_at hx
  have hda := drop_at hxa
  refine ⟨rise_snoc h.rise (fun y hy => h.fb y hy x (by rw [hd]; simp)), fun y => ?_, fun y hy z hz => ?_, fun y hy z hz => ?_, by have := h.len; simp; omega⟩
  · rw [take_at hx, take_at hxa, List.mem_append, List.mem_append, List.mem_append, h.mem y]
    constructor
    · rintro ((h1 | h1) | h1)
      · exact .inl (.inl h1)
      · exact .inr (.inl h1)
      · exact .inr (.inr h1)
    · rintro ((h1 | h1) | (h1 | h1))
      · exact .inl (.inl h1)
      · exact .inr h1
      · exact .inl (.inr h1)
      · exact .inr h1
  · rcases List.mem_append.1 hy with h1 | h1
    · exact h.fa y h1 z (by rw [hda]; simp [hz])
    · simp at h1; subst h1; exact rise_drop ha hxa z hz
  · rcases List.mem_append.1 hy with h1 | h1
    · exact h.fb y h1 z (by rw [hd]; simp [hz])
    · simp at h1; subst h1; exact rise_drop hb hx z hz
/-- one behind the first of a rising rest is behind all -/
theorem rest_lt {a : List ByteArray} {i : Nat} {x y : ByteArray} (hr : Rise a) (h : a[i]? = some y) (hlt : ky x < ky y) : ∀ z ∈ a.drop i, ky x < ky z := by
  intro z hz
  rw [drop_at h] at hz
  rcases List.mem_cons.1 hz with rfl | hz
  · exact hlt
  · exact List.lt_trans hlt (rise_drop hr h z hz)
theorem mine_bel {w0 w w' : World} {u : Value} {l : List ByteArray} (h : Mine w0 w u l) (hb : Below w.heap.size w w') : Mine w0 w' u l := ⟨h.1.bel hb, h.2.1, bup h.2.2 hb⟩
/-- both lists as one: each text once, rising -/
def MgE (w : World) (a b : List ByteArray) (e : Ending) (w' : World) : Prop := ∃ u o, e = .returned u ∧ Mine w w' u o ∧ Rise o ∧ (∀ x, x ∈ o ↔ x ∈ a ∨ x ∈ b) ∧ o.length ≤ a.length + b.length
set_option maxHeartbeats 8000000 in
theorem merged_any (w : World) (va vb : Value) (a b : List ByteArray) (ha : Tx w va a) (hb : Tx w vb b) (ra : Rise a) (rb : Rise b) (hn : a.length + b.length ≤ 2600000000000) :
    Calls Tryz.prog 48 #[va, vb] w (MgE w a b) := by
  obtain ⟨ao, ac, rfl, hao⟩ := ha.form
  obtain ⟨bo, bc, rfl, hbo⟩ := hb.form
  obtain ⟨n, hln⟩ : ∃ n, a.length = n := ⟨_, rfl⟩
  obtain ⟨m, hlm⟩ : ∃ m, b.length = m := ⟨_, rfl⟩
  rw [hln] at ha hao hn ⊢
  rw [hlm] at hb hbo hn ⊢
  have HA := keep ha
  have HB := keep hb
  have HAO := keep hao
  have HBO := keep hbo
  have HL := keep hln
  have HLM := keep hlm
  have HN := keep hn
  have RA := keep ra
  have RB := keep rb
  generalize hQd : MgE w a b = Q
  have HQ : Kept (∀ u o w', Mine w w' u o → Mg a b n m o → Q (.returned u) w') := by
    rw [← hQd]
    exact fun u o w' h1 h2 => ⟨u, o, rfl, h1, h2.rise, fun x => by rw [h2.mem x, List.take_of_length_le (by omega), List.take_of_length_le (by omega)], by have := h2.len; omega⟩
  clear ha hb hao hbo hln hlm hn ra rb hQd
  go_enter Tryz.func48, Tryz.ntmps48
  go_wp2
  go_loopg [5, 6, 7] (n + m) (fun kx s5 s6 s7 wr => ∃ i k : Nat, s6 = .int .i64 i ∧ s7 = .int .i64 k ∧ i ≤ n ∧ k ≤ m ∧ n - i + (m - k) ≤ kx ∧ ∃ co cn cc, s5 = .slice co cn cc ∧ Kept (∃ o, Mine w wr (.slice co cn cc) o ∧ Mg a b i k o))
  case atStart => exact ⟨0, 0, rfl, rfl, Nat.zero_le _, Nat.zero_le _, by omega, none, 0, 0, rfl, [], mine0 w, mg0 a b⟩
  case round =>
    obtain ⟨i, k, rfl, rfl, hi, hk, hg, co, cn, cc, rfl, KM⟩ := hrel
    have i0 : (0 : Int) ≤ (i : Int) := by omega
    have k0 : (0 : Int) ≤ (k : Int) := by omega
    have hwi : IntKind.i64.wrap ((i : Int) + 1) = (i : Int) + 1 := by have := HN.out; rw [IntKind.wrap_i64]; omega
    have hwk : IntKind.i64.wrap ((k : Int) + 1) = (k : Int) + 1 := by have := HN.out; rw [IntKind.wrap_i64]; omega
    by_cases hin : i < n
    · obtain ⟨x, hx⟩ : ∃ x, a[i]? = some x := ⟨_, List.getElem?_eq_getElem (by have := HL.out; omega)⟩
      obtain ⟨ga, rfl⟩ := HAO.out (by omega)
      have Hx := keep hx
      have i1 : (i : Int) < (n : Int) := by omega
      clear hx
      by_cases hkm : k < m
      · obtain ⟨y, hy⟩ : ∃ y, b[k]? = some y := ⟨_, List.getElem?_eq_getElem (by have := HLM.out; omega)⟩
        obtain ⟨gb, rfl⟩ := HBO.out (by omega)
        have Hy := keep hy
        have k1 : (k : Int) < (m : Int) := by omega
        have k2 : ¬ (k : Int) = (m : Int) := by omega
        have k3 : ((k : Int) == (m : Int)) = false := by rw [beq_eq_false_iff_ne]; exact k2
        have k4 : decide ((k : Int) = (m : Int)) = false := decide_eq_false k2
        clear hy
        have exw : wr.cell? ⟨ga, i, none⟩ = some (.string x) := (HA.out.bel KM.out.choose_spec.1.2.2).at Hx.out
        have eyw : wr.cell? ⟨gb, k, none⟩ = some (.string y) := (HB.out.bel KM.out.choose_spec.1.2.2).at Hy.out
        cases hq : Op.bytesLess x.toList y.toList
        · have HLE : Kept (¬ ky x < ky y) := by rw [less_is, tl_ky, tl_ky] at hq; exact of_decide_eq_false hq
          cases hq2 : (x.toList == y.toList)
          · have HLT : Kept (ky y < ky x) := Classical.byContradiction fun hc => by
              have : y = x := ky_inj (List.le_antisymm (List.not_lt.1 HLE.out) (List.not_lt.1 hc))
              rw [this] at hq2
              simp at hq2
            go_wp2_with fail
            go_quiet (fail)
            obtain ⟨W2, hW2⟩ : ∃ W, wr.drewN nq = W := ⟨_, rfl⟩
            have bW2 : Below wr.heap.size wr W2 := by rw [← hW2]; exact below_drewN (Below.refl _ _) nq
            rw [hW2]
            clear hW2 nq
            have cxW2 : W2.cell? ⟨ga, i, none⟩ = some (.string x) := (HA.out.bel (bup KM.out.choose_spec.1.2.2 bW2)).at Hx.out
            have cyW2 : W2.cell? ⟨gb, k, none⟩ = some (.string y) := (HB.out.bel (bup KM.out.choose_spec.1.2.2 bW2)).at Hy.out
            go_wp2_with fail
            go_quiet (fail)
            obtain ⟨W3, hW3⟩ : ∃ W, W2.drewN nq = W := ⟨_, rfl⟩
            have bW3 : Below W2.heap.size W2 W3 := by rw [← hW3]; exact below_drewN (Below.refl _ _) nq
            rw [hW3]
            clear hW3 nq
            have BB := keep (bup bW2 bW3)
            have cyW3 : W3.cell? ⟨gb, k, none⟩ = some (.string y) := (HB.out.bel (bup KM.out.choose_spec.1.2.2 (bup bW2 bW3))).at Hy.out
            clear bW2 bW3
            obtain ⟨W4, hW4⟩ : ∃ W, W3.alloc (.cells #[.string y] 9) = W := ⟨_, rfl⟩
            have b4 : Below W3.heap.size W3 W4 := by rw [← hW4]; exact (Below.refl _ W3).alloc (Nat.le_refl _) _
            have g4 : W4.heap[W3.heap.size]? = some (.cells #[.string y] 9 (0, 0)) := by rw [← hW4]; exact heap_alloc_new _ _
            obtain ⟨o, mo, go⟩ := KM.out
            have mo4 := mine_bel (mine_bel mo BB.out) b4
            obtain ⟨eo, en, ec, W5, a1, m5, _⟩ := mine_push (x := y) mo4 g4 (by have := go.len; have := HN.out; omega)
            have M5 : Kept (∃ o, Mine w W5 (.slice eo en ec) o ∧ Mg a b i (k + 1) o) := ⟨_, m5, go.right RB.out Hy.out (rest_lt RA.out Hx.out HLT.out)⟩
            have A1 := keep a1
            clear b4 g4 mo go mo4 a1 m5 KM BB
            go_wp2_with (at_builtin; refine wpList_app_run rfl _ _ _ _ rfl _ _ _ rfl rfl A1.out ?_)
            go_roundg (n - i + (m - (k + 1)))
            case measure => omega
            case rel => exact ⟨i, k + 1, rfl, by simp, by omega, by omega, Nat.le_refl _, eo, en, ec, rfl, M5.out⟩
          · have EQ : Kept (x = y) := tl_inj' (beq_iff_eq.1 hq2)
            go_wp2_with fail
            go_quiet (fail)
            obtain ⟨W2, hW2⟩ : ∃ W, wr.drewN nq = W := ⟨_, rfl⟩
            have bW2 : Below wr.heap.size wr W2 := by rw [← hW2]; exact below_drewN (Below.refl _ _) nq
            rw [hW2]
            clear hW2 nq
            have cxW2 : W2.cell? ⟨ga, i, none⟩ = some (.string x) := (HA.out.bel (bup KM.out.choose_spec.1.2.2 bW2)).at Hx.out
            have cyW2 : W2.cell? ⟨gb, k, none⟩ = some (.string y) := (HB.out.bel (bup KM.out.choose_spec.1.2.2 bW2)).at Hy.out
            go_wp2_with fail
            go_quiet (fail)
            obtain ⟨W3, hW3⟩ : ∃ W, W2.drewN nq = W := ⟨_, rfl⟩
            have bW3 : Below W2.heap.size W2 W3 := by rw [← hW3]; exact below_drewN (Below.refl _ _) nq
            rw [hW3]
            clear hW3 nq
            have BB := keep (bup bW2 bW3)
            have cyW3 : W3.cell? ⟨gb, k, none⟩ = some (.string y) := (HB.out.bel (bup KM.out.choose_spec.1.2.2 (bup bW2 bW3))).at Hy.out
            clear bW2 bW3
            obtain ⟨W4, hW4⟩ : ∃ W, W3.alloc (.cells #[.string y] 9) = W := ⟨_, rfl⟩
            have b4 : Below W3.heap.size W3 W4 := by rw [← hW4]; exact (Below.refl _ W3).alloc (Nat.le_refl _) _
            have g4 : W4.heap[W3.heap.size]? = some (.cells #[.string y] 9 (0, 0)) := by rw [← hW4]; exact heap_alloc_new _ _
            obtain ⟨o, mo, go⟩ := KM.out
            have mo4 := mine_bel (mine_bel mo BB.out) b4
            obtain ⟨eo, en, ec, W5, a1, m5, _⟩ := mine_push (x := y) mo4 g4 (by have := go.len; have := HN.out; omega)
            have M5 : Kept (∃ o, Mine w W5 (.slice eo en ec) o ∧ Mg a b (i + 1) (k + 1) o) := ⟨_, m5, go.both RA.out RB.out (by rw [← EQ.out]; exact Hx.out) Hy.out⟩
            have A1 := keep a1
            clear b4 g4 mo go mo4 a1 m5 KM BB
            go_wp2_with (at_builtin; refine wpList_app_run rfl _ _ _ _ rfl _ _ _ rfl rfl A1.out ?_)
            go_roundg (n - (i + 1) + (m - (k + 1)))
            case measure => omega
            case rel => exact ⟨i + 1, k + 1, by simp, by simp, by omega, by omega, Nat.le_refl _, eo, en, ec, rfl, M5.out⟩
        · have hlt' : ky x < ky y := by rw [less_is, tl_ky, tl_ky] at hq; exact of_decide_eq_true hq
          have HLT := keep hlt'
          clear hlt'
          go_wp2_with fail
          go_quiet (fail)
          obtain ⟨W2, hW2⟩ : ∃ W, wr.drewN nq = W := ⟨_, rfl⟩
          have bW2 : Below wr.heap.size wr W2 := by rw [← hW2]; exact below_drewN (Below.refl _ _) nq
          rw [hW2]
          clear hW2 nq
          have BB := keep bW2
          have cxW2 : W2.cell? ⟨ga, i, none⟩ = some (.string x) := (HA.out.bel (bup KM.out.choose_spec.1.2.2 bW2)).at Hx.out
          clear bW2
          obtain ⟨W4, hW4⟩ : ∃ W, W2.alloc (.cells #[.string x] 9) = W := ⟨_, rfl⟩
          have b4 : Below W2.heap.size W2 W4 := by rw [← hW4]; exact (Below.refl _ W2).alloc (Nat.le_refl _) _
          have g4 : W4.heap[W2.heap.size]? = some (.cells #[.string x] 9 (0, 0)) := by rw [← hW4]; exact heap_alloc_new _ _
          obtain ⟨o, mo, go⟩ := KM.out
          have mo4 := mine_bel (mine_bel mo BB.out) b4
          obtain ⟨eo, en, ec, W5, a1, m5, _⟩ := mine_push (x := x) mo4 g4 (by have := go.len; have := HN.out; omega)
          have M5 : Kept (∃ o, Mine w W5 (.slice eo en ec) o ∧ Mg a b (i + 1) k o) := ⟨_, m5, go.left RA.out Hx.out (rest_lt RB.out Hy.out HLT.out)⟩
          have A1 := keep a1
          clear b4 g4 mo go mo4 a1 m5 KM BB
          go_wp2_with (at_builtin; refine wpList_app_run rfl _ _ _ _ rfl _ _ _ rfl rfl A1.out ?_)
          go_roundg (n - (i + 1) + (m - k))
          case measure => omega
          case rel => exact ⟨i + 1, k, by simp, rfl, by omega, by omega, Nat.le_refl _, eo, en, ec, rfl, M5.out⟩
      · obtain rfl : k = m := by omega
        have HK := keep HLM.out
        have exw : wr.cell? ⟨ga, i, none⟩ = some (.string x) := (HA.out.bel KM.out.choose_spec.1.2.2).at Hx.out
        go_wp2_with fail
        go_quiet (fail)
        obtain ⟨W2, hW2⟩ : ∃ W, wr.drewN nq = W := ⟨_, rfl⟩
        have bW2 : Below wr.heap.size wr W2 := by rw [← hW2]; exact below_drewN (Below.refl _ _) nq
        rw [hW2]
        clear hW2 nq
        have BB := keep bW2
        have cxW2 : W2.cell? ⟨ga, i, none⟩ = some (.string x) := (HA.out.bel (bup KM.out.choose_spec.1.2.2 bW2)).at Hx.out
        clear bW2
        obtain ⟨W4, hW4⟩ : ∃ W, W2.alloc (.cells #[.string x] 9) = W := ⟨_, rfl⟩
        have b4 : Below W2.heap.size W2 W4 := by rw [← hW4]; exact (Below.refl _ W2).alloc (Nat.le_refl _) _
        have g4 : W4.heap[W2.heap.size]? = some (.cells #[.string x] 9 (0, 0)) := by rw [← hW4]; exact heap_alloc_new _ _
        obtain ⟨o, mo, go⟩ := KM.out
        have mo4 := mine_bel (mine_bel mo BB.out) b4
        obtain ⟨eo, en, ec, W5, a1, m5, _⟩ := mine_push (x := x) mo4 g4 (by have := go.len; have := HN.out; omega)
        have M5 : Kept (∃ o, Mine w W5 (.slice eo en ec) o ∧ Mg a b (i + 1) k o) := ⟨_, m5, go.left RA.out Hx.out (fun z hz => by rw [List.drop_eq_nil_of_le (by have := HK.out; omega)] at hz; simp at hz)⟩
        have A1 := keep a1
        clear b4 g4 mo go mo4 a1 m5 KM BB
        go_wp2_with (at_builtin; refine wpList_app_run rfl _ _ _ _ rfl _ _ _ rfl rfl A1.out ?_)
        go_roundg (n - (i + 1) + (k - k))
        case measure => omega
        case rel => exact ⟨i + 1, k, by simp, rfl, by omega, by omega, Nat.le_refl _, eo, en, ec, rfl, M5.out⟩
    · obtain rfl : i = n := by omega
      have HI := keep HL.out
      by_cases hkm : k < m
      · obtain ⟨y, hy⟩ : ∃ y, b[k]? = some y := ⟨_, List.getElem?_eq_getElem (by have := HLM.out; omega)⟩
        obtain ⟨gb, rfl⟩ := HBO.out (by omega)
        have Hy := keep hy
        have k1 : (k : Int) < (m : Int) := by omega
        have k2 : ¬ (k : Int) = (m : Int) := by omega
        have k3 : ((k : Int) == (m : Int)) = false := by rw [beq_eq_false_iff_ne]; exact k2
        have k4 : decide ((k : Int) = (m : Int)) = false := decide_eq_false k2
        clear hy
        have eyw : wr.cell? ⟨gb, k, none⟩ = some (.string y) := (HB.out.bel KM.out.choose_spec.1.2.2).at Hy.out
        go_wp2_with fail
        go_quiet (fail)
        obtain ⟨W2, hW2⟩ : ∃ W, wr.drewN nq = W := ⟨_, rfl⟩
        have bW2 : Below wr.heap.size wr W2 := by rw [← hW2]; exact below_drewN (Below.refl _ _) nq
        rw [hW2]
        clear hW2 nq
        have cyW2 : W2.cell? ⟨gb, k, none⟩ = some (.string y) := (HB.out.bel (bup KM.out.choose_spec.1.2.2 bW2)).at Hy.out
        go_wp2_with fail
        go_quiet (fail)
        obtain ⟨W3, hW3⟩ : ∃ W, W2.drewN nq = W := ⟨_, rfl⟩
        have bW3 : Below W2.heap.size W2 W3 := by rw [← hW3]; exact below_drewN (Below.refl _ _) nq
        rw [hW3]
        clear hW3 nq
        have BB := keep (bup bW2 bW3)
        have cyW3 : W3.cell? ⟨gb, k, none⟩ = some (.string y) := (HB.out.bel (bup KM.out.choose_spec.1.2.2 (bup bW2 bW3))).at Hy.out
        clear bW2 bW3
        obtain ⟨W4, hW4⟩ : ∃ W, W3.alloc (.cells #[.string y] 9) = W := ⟨_, rfl⟩
        have b4 : Below W3.heap.size W3 W4 := by rw [← hW4]; exact (Below.refl _ W3).alloc (Nat.le_refl _) _
        have g4 : W4.heap[W3.heap.size]? = some (.cells #[.string y] 9 (0, 0)) := by rw [← hW4]; exact heap_alloc_new _ _
        obtain ⟨o, mo, go⟩ := KM.out
        have mo4 := mine_bel (mine_bel mo BB.out) b4
        obtain ⟨eo, en, ec, W5, a1, m5, _⟩ := mine_push (x := y) mo4 g4 (by have := go.len; have := HN.out; omega)
        have M5 : Kept (∃ o, Mine w W5 (.slice eo en ec) o ∧ Mg a b i (k + 1) o) := ⟨_, m5, go.right RB.out Hy.out (fun z hz => by rw [List.drop_eq_nil_of_le (by have := HI.out; omega)] at hz; simp at hz)⟩
        have A1 := keep a1
        clear b4 g4 mo go mo4 a1 m5 KM BB
        go_wp2_with (at_builtin; refine wpList_app_run rfl _ _ _ _ rfl _ _ _ rfl rfl A1.out ?_)
        go_roundg (i - i + (m - (k + 1)))
        case measure => omega
        case rel => exact ⟨i, k + 1, rfl, by simp, by omega, by omega, Nat.le_refl _, eo, en, ec, rfl, M5.out⟩
      · obtain rfl : k = m := by omega
        have HF : Kept (Q (.returned (.slice co cn cc)) wr) := by
          obtain ⟨o, mo, go⟩ := KM.out
          exact HQ.out _ o _ mo go
        go_wp2
        first | exact HF.out | (go_ret; exact HF.out)
end Rd
end Go.Proofs.YtlfpkbjiofelkaaGreat

namespace Go.Proofs.YtlfpkbjiofelkaaGreat
open Go.RowKit Go.Shelf
set_option linter.unusedVariables false
set_option linter.unusedSimpArgs false
set_option maxRecDepth 100000
namespace Rd
/-- a flock by its members, or none -/
def FO (w : World) (p : Value) (l : List ByteArray) : Prop :=
  (p = .pointer none ∧ l = []) ∨ ∃ R h N r b seed v s KV, p = .pointer (some ⟨R, 0, none⟩) ∧ RF h N w r R b seed v l s KV ∧ N ≤ 2600000000000
theorem FO.below {w w' : World} {p : Value} {l : List ByteArray} (h : FO w p l) (hb : Below w.heap.size w w') : FO w' p l := by
  rcases h with h | ⟨R, hh, N, r, b, seed, v, s, KV, h1, h2, h3⟩
  · exact .inl h
  · exact .inr ⟨R, hh, N, r, b, seed, v, s, KV, h1, h2.below hb, h3⟩
theorem FO.rise {w : World} {p : Value} {l : List ByteArray} (h : FO w p l) : Rise l := by
  rcases h with ⟨_, rfl⟩ | ⟨R, hh, N, r, b, seed, v, s, KV, h1, h2, h3⟩
  · exact List.Pairwise.nil
  · exact h2.2.1
theorem FO.ptr {w : World} {p : Value} {l : List ByteArray} (h : FO w p l) : ∃ a, p = .pointer a := by
  rcases h with ⟨rfl, _⟩ | ⟨R, hh, N, r, b, seed, v, s, KV, rfl, h2, h3⟩ <;> exact ⟨_, rfl⟩
theorem members_o {w : World} {p : Value} {l : List ByteArray} (h : FO w p l) :
    Calls Tryz.prog 32 #[p] w fun e w' => ∃ u, e = .returned u ∧ Mine w w' u l := by
  rcases h with ⟨rfl, rfl⟩ | ⟨R, hh, N, r, b, seed, v, s, KV, rfl, h2, h3⟩
  · exact (rfmembers_nil w).mono (by rintro _ w' ⟨rfl, rfl⟩; exact ⟨_, rfl, mine0 _⟩)
  · exact rfmembers_any h2.1 (by have := h2.few; have := h2.1.1.few; omega)
theorem in_o {w : World} {p : Value} {l : List ByteArray} (h : FO w p l) (x : ByteArray) :
    Calls Tryz.prog 73 #[p, .string x] w fun e w' => e = .returned (.bool (isin x l)) ∧ w' = w := by
  rcases h with ⟨rfl, rfl⟩ | ⟨R, hh, N, r, b, seed, v, s, KV, rfl, h2, h3⟩
  · exact in_nil w x
  · exact (in_any x h2.1 (by have := h2.few; have := h2.1.1.few; omega)).mono (by rintro _ w' ⟨⟨i, o, rfl, hp⟩, rfl⟩; exact ⟨by rw [hp.mem h2.2.1], rfl⟩)
/-- a row of flocks: where their pointers lie -/
def FRow (w : World) (v : Value) (L : List (List ByteArray)) : Prop :=
  ∃ ao c, v = .slice ao L.length c ∧ L.length ≤ c ∧ (0 < L.length → ∃ g, ao = some ⟨g, 0, none⟩) ∧ ∀ g j l, ao = some ⟨g, 0, none⟩ → L[j]? = some l → ∃ p, w.cell? ⟨g, j, none⟩ = some p ∧ FO w p l
theorem FRow.below {w w' : World} {v : Value} {L : List (List ByteArray)} (h : FRow w v L) (hb : Below w.heap.size w w') : FRow w' v L := by
  obtain ⟨ao, c, h1, h2, h3, h4⟩ := h
  refine ⟨ao, c, h1, h2, h3, fun g j l e hj => ?_⟩
  obtain ⟨p, q1, q2⟩ := h4 g j l e hj
  exact ⟨p, (hb.cell (p := ⟨g, j, none⟩) (World.block_lt_of_cell? _ _ q1)).trans q1, q2.below hb⟩
/-- how many there are in all -/
def total (L : List (List ByteArray)) : Nat := (L.map List.length).sum
theorem total_take (L : List (List ByteArray)) (i : Nat) : total (L.take i) ≤ total L := by
  have h : total L = total (L.take i) + total (L.drop i) := by
    unfold total
    rw [← List.sum_append, ← List.map_append, List.take_append_drop]
  omega
theorem mine_up {w0 w w' : World} {u : Value} {l : List ByteArray} (hb : Below w0.heap.size w0 w) (h : Mine w w' u l) : Mine w0 w' u l := ⟨h.1, fun k hk => Nat.le_trans hb.size (h.2.1 k hk), bup hb h.2.2⟩
theorem total_snoc {L : List (List ByteArray)} {i : Nat} {l : List ByteArray} (h : L[i]? = some l) : total (L.take (i + 1)) = total (L.take i) + l.length := by
  unfold total
  rw [List.take_add_one, h]
  simp
/-- all of them as one, rising -/
def UnE (w : World) (L : List (List ByteArray)) (e : Ending) (w' : World) : Prop := ∃ u o, e = .returned u ∧ Mine w w' u o ∧ Rise o ∧ (∀ x, x ∈ o ↔ ∃ l ∈ L, x ∈ l)
set_option maxHeartbeats 4000000 in
theorem union_any (w : World) (v : Value) (L : List (List ByteArray)) (hv : FRow w v L) (hn : total L ≤ 2600000000000) (hm : L.length ≤ 1000000000000) :
    Calls Tryz.prog 18 #[v] w (UnE w L) := by
  have HV := keep hv
  obtain ⟨ao, c, rfl, hc, hao, _⟩ := hv
  obtain ⟨n, hln⟩ : ∃ n, L.length = n := ⟨_, rfl⟩
  rw [hln] at hao hm HV hc ⊢
  have HL := keep hln
  have HAO := keep hao
  have HN := keep hn
  have HMM := keep hm
  generalize hQd : UnE w L = Q
  have HQ : Kept (∀ u o w', Mine w w' u o → Rise o → (∀ x, x ∈ o ↔ ∃ l ∈ L.take n, x ∈ l) → Q (.returned u) w') := by
    rw [← hQd]
    exact fun u o w' h1 h2 h3 => ⟨u, o, rfl, h1, h2, by rwa [List.take_of_length_le (by omega)] at h3⟩
  clear hao hn hm hln hQd hc
  go_enter Tryz.func18, Tryz.ntmps18
  go_wp2
  go_loopg [3, 8] n (fun kx s3 s8 wr => ∃ i : Nat, s8 = .int .i64 i ∧ i ≤ n ∧ n - i ≤ kx ∧ ∃ co cn cc, s3 = .slice co cn cc ∧ Kept (∃ o, Mine w wr (.slice co cn cc) o ∧ Rise o ∧ (∀ x, x ∈ o ↔ ∃ l ∈ L.take i, x ∈ l) ∧ o.length ≤ total (L.take i)))
  case atStart => exact ⟨0, rfl, Nat.zero_le _, by omega, none, 0, 0, rfl, [], mine0 w, List.Pairwise.nil, fun x => by simp, Nat.zero_le _⟩
  case round =>
    obtain ⟨i, rfl, hin, hg, co, cn, cc, rfl, KM⟩ := hrel
    by_cases hlt : i < n
    · obtain ⟨l, hl⟩ : ∃ l, L[i]? = some l := ⟨_, List.getElem?_eq_getElem (by have := HL.out; omega)⟩
      obtain ⟨g, rfl⟩ := HAO.out (by omega)
      obtain ⟨o, mo, ro, xo, lo⟩ := KM.out
      obtain ⟨ao', c', e1, e2, e3, e4⟩ := HV.out.below mo.2.2
      have e5 := HL.out
      rw [e5] at e1
      cases e1
      obtain ⟨p, cp, fo⟩ := e4 g i l rfl hl
      obtain ⟨pa, rfl⟩ := fo.ptr
      have i0 : (0 : Int) ≤ (i : Int) := by omega
      have i1 : (i : Int) < (n : Int) := by omega
      have hwi : IntKind.i64.wrap ((i : Int) + 1) = (i : Int) + 1 := by have := HMM.out; rw [IntKind.wrap_i64]; omega
      have FOO := keep fo
      have MM := keep (members_o fo)
      have HLI := keep hl
      have MO := keep mo
      have RO := keep ro
      have XO := keep xo
      have LO := keep lo
      clear hl mo ro xo lo e2 e3 e4 e5 fo KM
      go_wp2_with fail
      refine MM.out.mono ?_
      rintro _ w2 ⟨u2, rfl, hm2⟩
      have hts := total_snoc HLI.out
      have htt := total_take L (i + 1)
      have MG := keep (merged_any w2 _ u2 o l (MO.out.1.bel hm2.2.2) hm2.1 RO.out FOO.out.rise (by have := HN.out; have := LO.out; omega))
      have B2 := keep (bup MO.out.2.2 hm2.2.2)
      clear MM hm2 htt hts
      go_wp2_with fail
      refine MG.out.mono ?_
      rintro _ w3 ⟨u3, o3, rfl, m3, r3, x3, l3⟩
      obtain ⟨do1, dn, dc, rfl⟩ := mine_slice m3
      have M3 : Kept (∃ o, Mine w w3 (.slice do1 dn dc) o ∧ Rise o ∧ (∀ x, x ∈ o ↔ ∃ l ∈ L.take (i + 1), x ∈ l) ∧ o.length ≤ total (L.take (i + 1))) := by
        refine ⟨o3, mine_up B2.out m3, r3, fun x => ?_, by rw [total_snoc HLI.out]; have := LO.out; omega⟩
        rw [x3, XO.out x, List.take_add_one, HLI.out]
        simp only [Option.toList_some, List.mem_append, List.mem_singleton]
        constructor
        · rintro (⟨l', h1, h2⟩ | h1)
          · exact ⟨l', .inl h1, h2⟩
          · exact ⟨l, .inr rfl, h1⟩
        · rintro ⟨l', h1 | rfl, h2⟩
          · exact .inl ⟨l', h1, h2⟩
          · exact .inr h2
      clear MG m3 r3 x3 l3
      go_wp2
      go_roundg (n - (i + 1))
      case measure => omega
      case rel => exact ⟨i + 1, by simp, by omega, Nat.le_refl _, do1, dn, dc, rfl, M3.out⟩
    · obtain rfl : i = n := by omega
      have HF : Kept (Q (.returned (.slice co cn cc)) wr) := by
        obtain ⟨o, mo, ro, xo, _⟩ := KM.out
        exact HQ.out _ o _ mo ro xo
      go_wp2
      first | exact HF.out | (go_ret; exact HF.out)
end Rd
end Go.Proofs.YtlfpkbjiofelkaaGreat
