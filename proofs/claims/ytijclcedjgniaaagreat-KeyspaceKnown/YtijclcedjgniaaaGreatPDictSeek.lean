/-
  Contracts over this program: in which table, in which bucket of it and at which place a key stands.
-/
import Derived.Test.YtijclcedjgniaaaGreatPDictStep0
import Derived.RangeFuncNested
import Derived.RangeFuncBound
import Derived.RangeFuncCalls
import Derived.RangeFuncLeaves
import Derived.Shelf.RegionOpen
import Derived.WalkKit
import Derived.OwnWalkIn
import Derived.TacticsInMore
import Derived.LoopNIn
import Derived.LoopIn
import Derived.Deep.QuietTactic
import Derived.BigQuiet
import Derived.WalkSmall
/-
  Contracts over this program: a chain is gone through from its head on (slices.Backward).
-/
namespace Go.Proofs.YtijclcedjgniaaaGreat.DP
open Go.RowKit Go.Shelf
attribute [local go_sem] Oper.semAt_some
/-- what is handed over: a place and the entry that stands there -/
abbrev Bk (c : List Ent) : Type := { x : Nat × Ent // x.2 ∈ c }
def bkE {c : List Ent} (x : Bk c) : Array Value := #[.int .i64 (x.1.1 : Int), .agg #[.string x.1.2.1, .pointer x.1.2.2]]
def bks {c : List Ent} (l : List (Bk c)) : List Ent := l.map (fun x => x.1.2)
theorem bks_snoc {c : List Ent} {l : List (Bk c)} {x : Bk c} {m : Nat} {e : Ent} (h : x.1 = (m, e)) : bks (l ++ [x]) = bks l ++ [e] := by
  unfold bks
  rw [List.map_append, List.map_singleton, h]
/-- the blocks that it reads are kept -/
def KpB (Bs : Nat) (v : Value) (A B : World) : Prop := B.heap[Bs]? = A.heap[Bs]? ∧ ∀ k, v.ownBlock = some k → B.heap[k]? = A.heap[k]?
theorem KpB.refl (Bs : Nat) (v : Value) (A : World) : KpB Bs v A A := ⟨rfl, fun _ _ => rfl⟩
theorem KpB.trans {Bs : Nat} {v : Value} {A B C : World} (h : KpB Bs v A B) (g : KpB Bs v B C) : KpB Bs v A C := ⟨g.1.trans h.1, fun k e => (g.2 k e).trans (h.2 k e)⟩
theorem rev_take {c : List Ent} {m : Nat} {e : Ent} (h : c.reverse[m]? = some e) : c.take (c.length - 1 - m + 1) = c.take (c.length - 1 - m) ++ [e] := by
  have hl : m < c.length := by have := (List.getElem?_eq_some_iff.1 h).1; simpa using this
  rw [List.getElem?_reverse hl] at h
  rw [List.take_succ_eq_append_getElem (by omega)]
  rw [List.getElem?_eq_getElem (by omega)] at h
  rw [Option.some.inj h]
set_option maxRecDepth 100000 in
set_option maxHeartbeats 2000000 in
theorem back1_in (n : Nat) (l Bs : Nat) (v : Value) (c : List Ent) (J Jx : List (Bk c) → World → Prop)
    (hY : ∀ pre x W1, J pre W1 → pre.length < c.length → YieldAt Fence.wide (n - 1) Tryz.prog l (bkE x) W1 fun e W' => (e = .returned (.bool true) ∧ J (pre ++ [x]) W' ∧ KpB Bs v W1 W') ∨ (e = .returned (.bool false) ∧ Jx (pre ++ [x]) W'))
    (W : World) (hBs : W.cell? ⟨Bs, 0, none⟩ = some v) (hC : Chn W v c) (h0 : J [] W) :
    CallsIn Fence.wide n Tryz.prog 228 #[.func (.yield l) #[] #[], .pointer (some ⟨Bs, 0, none⟩)] W fun e W' => (∃ v, e = .returned v) ∧ ((∃ xs, bks xs = c ∧ J xs W') ∨ (∃ pre, bks pre <+: c ∧ Jx pre W')) := by
  obtain ⟨co, cc, rfl⟩ := chn_len hC
  have hlen : c.length ≤ 9223372036854775807 := by
    rcases hC.form with ⟨_, rfl⟩ | ⟨g, cap, _, _, h1, h2⟩
    · simp
    · unfold maxLen at h2; omega
  have HC := keep hC
  have HY := keep hY
  have HB := keep hBs
  clear hC hY
  obtain ⟨L, hL⟩ : ∃ L, c.length = L := ⟨_, rfl⟩
  rw [hL] at hBs hlen
  have HL := keep hL
  have hw0 : IntKind.i64.wrap ((L : Int) - 1) = (L : Int) - 1 := by rw [IntKind.wrap_i64]; omega
  refine callsIn_of_wp Tryz.func228 rfl trivial ?_ rfl
  simp only [Tryz.ntmps228, List.size_toArray, List.length_cons, List.length_nil, Nat.reduceAdd, Nat.reduceSub, Array.replicate_succ, Array.replicate_zero, List.push_toArray, List.append_toArray, List.nil_append, List.cons_append]
  gi_wp2
  clear hw0 hBs
  gi_loopw [3] (fun i wr => ∃ (m : Nat) (pre : List (Bk c)), m ≤ L ∧ i = .int .i64 ((m : Int) - 1) ∧ Kept (bks pre = c.take (L - m)) ∧ Kept (J pre wr) ∧ Kept (KpB Bs (.slice co c.length cc) W wr)) (fun i _ => (intOf i + 1).toNat)
  case atStart => exact ⟨L, [], Nat.le_refl _, rfl, by show _ = _; rw [Nat.sub_self]; rfl, h0, KpB.refl _ _ _⟩
  case round =>
    obtain ⟨m, pre, hm, rfl, KT, KJ, KK⟩ := hrel
    have hBs : wr.cell? ⟨Bs, 0, none⟩ = some (.slice co L cc) := by rw [World.cell?_of_block (w := W) (a := ⟨Bs, 0, none⟩) KK.out.1, HB.out, HL.out]
    cases m with
    | zero =>
      clear hBs
      gi_wp2
      go_end0
      refine ⟨⟨_, rfl⟩, .inl ⟨pre, ?_, KJ.out⟩⟩
      rw [KT.out, Nat.sub_zero, ← HL.out, List.take_length]
    | succ m =>
      have em : ((m + 1 : Nat) : Int) - 1 = (m : Int) := by omega
      rw [em]
      obtain ⟨e, he⟩ := rev_some (c := c) (k := m) (by rw [HL.out]; omega)
      have HE := keep he
      have hmem : e ∈ c := List.mem_reverse.1 (List.mem_of_getElem? he)
      have hCw : Chn wr (.slice co c.length cc) c := own_kept HC.out (fun k hk => KK.out.2 k hk)
      rcases hCw.form with ⟨hh, hcn⟩ | ⟨g, cap, hh, hg, _, _⟩
      · rw [hcn] at hmem; cases hmem
      · cases hh
        obtain ⟨l1, l2⟩ := hCw.at he
        clear hCw he
        have hpl : pre.length = L - (m + 1) := by
          have := congrArg List.length KT.out
          simp only [bks, List.length_map, List.length_take] at this
          rw [this, HL.out]; omega
        obtain ⟨x, hx⟩ : ∃ x : Bk c, x.1 = (m, e) := ⟨⟨(m, e), hmem⟩, rfl⟩
        obtain ⟨fn, tmps, assign, body, hy, hR⟩ := HY.out pre x wr KJ.out (by rw [hpl, HL.out]; omega)
        obtain ⟨e1, e2⟩ := e
        unfold bkE at hy
        rw [hx] at hy
        dsimp only at hy l1 l2
        have HX := keep hx
        have hm0 : (0 : Int) ≤ (m : Int) := by omega
        have hm1 : (m : Int) < (L : Int) := by omega
        have hmw : IntKind.i64.wrap ((m : Int) - 1) = (m : Int) - 1 := by rw [IntKind.wrap_i64]; omega
        clear hmem hpl em hx
        gi_wp2
        refine ⟨(fun h => by cases h), hR.mono ?_⟩
        rintro e W3 (⟨rfl, hJ3, hk3⟩ | ⟨rfl, hJx3⟩)
        · have K3 := keep hJ3
          have K4 := keep hk3
          clear hJ3 hk3
          gi_wp2
          go_roundw
          case rel =>
            refine ⟨m, pre ++ [x], by omega, rfl, ?_, K3, KK.out.trans K4.out⟩
            show bks _ = _
            rw [bks_snoc HX.out, KT.out]
            have := rev_take HE.out
            rw [HL.out] at this
            rw [show L - m = L - 1 - m + 1 by omega, this, show L - (m + 1) = L - 1 - m by omega]
          case measure => simp [intOf]
        · gi_wp2
          refine bodyPost_ret (results_none rfl _ _ _) rfl ?_
          refine ⟨⟨_, rfl⟩, .inr ⟨_, ?_, hJx3⟩⟩
          rw [bks_snoc HX.out, KT.out]
          have := rev_take HE.out
          rw [HL.out] at this
          rw [show L - (m + 1) = L - 1 - m by omega, ← this]
          exact List.take_prefix _ _
set_option maxHeartbeats 400000 in
theorem back_any (w : World) (ao : Option Addr) (n cap : Nat) :
    Calls Tryz.prog 164 #[.slice ao n cap] w fun e w' => e = .returned (.func (.func 228) #[] #[.pointer (some ⟨w.heap.size, 0, none⟩)]) ∧ w' = w.alloc (.cells #[.slice ao n cap] 202) := by
  have hmf : ∀ (fn : Fn) (first cap : Array Value) (w : World), (Instr.makeFunc fn first cap).run Tryz.prog w = .ok (.func fn first cap) w := fun _ _ _ _ => rfl
  go_enter Tryz.func164, Tryz.ntmps164
  go_wp2
  go_ret
  exact ⟨rfl, rfl⟩
/-- what slices.Backward hands back tells the chain's entries from its head on, whatever the loop's body does with other blocks -/
theorem back_stops (n : Nat) (Bs : Nat) (v : Value) (c : List Ent) (w : World) (hB : Bs < w.heap.size) (hc : w.cell? ⟨Bs, 0, none⟩ = some v) (hC : Chn w v c) :
    SeqStopsK Fence.wide n Tryz.prog 228 #[.pointer (some ⟨Bs, 0, none⟩)] (bkE (c := c)) (KpB Bs v) (fun xs => bks xs = c) (fun pre => bks pre <+: c) c.length w := fun l J Jx W hW _ _ hY h0 =>
  back1_in n l Bs v c J Jx hY W ((hW.cell (p := ⟨Bs, 0, none⟩) hB).trans hc) (own_kept hC (fun k hk => hW.block k (own_lt hC hk))) h0
theorem kpB_b {Bs : Nat} {v : Value} {w : World} (hB : Bs < w.heap.size) (hv : ∀ k, v.ownBlock = some k → k < w.heap.size) (W : World) (l : Nat) (o o' : Obj) (hl : w.heap.size ≤ l) (_ : W.heap[l]? = some o) (_ : o.isCells = false) (_ : o.isWalk = false) : KpB Bs v W (W.putObj l o') :=
  ⟨World.putObj_heap_other (by omega), fun k hk => World.putObj_heap_other (by have := hv k hk; omega)⟩
/- a region that draws its order, within a round -/
theorem upon_round {P : Program} {o : Oper} {a : Act} {l n : Nat} {next : Act → World → Prop} {Q : Exit → Act → World → Prop} {x : Result Next} (h : o.upon P a next Q x) : o.uponIn (Fence.wide.inRound l) n P a next Q x := by
  cases x with
  | ok y w' =>
    cases y <;> simp only [Oper.upon, Oper.uponIn] at h ⊢
    case value => exact h
    case skip => exact h
    case defer => exact h
    case enter f args => exact ⟨(fun h => by cases h), CallsIn.inRound l (callsIn_wide.2 h)⟩
    case row row args => exact ⟨(fun h => by cases h), fun c cs _ => let ⟨v, w', r, s⟩ := h c cs; ⟨v, w', r, stepsIn_wide.2 s⟩⟩
  | halt y w' => cases y <;> simp only [Oper.upon, Oper.uponIn] at h ⊢ <;> exact h
def noDefer (ops : Array Oper) : Bool := ops.toList.all fun o => match o.op with | .defer _ => false | _ => true
theorem noDefer_spec {ops : Array Oper} (h : noDefer ops = true) {i : Nat} {o : Oper} (ho : ops[i]? = some o) : ∀ c, o.op ≠ .defer c := by
  intro c hc
  have := List.all_eq_true.1 h o (by have := Array.mem_of_getElem? ho; simpa using this)
  rw [hc] at this
  cases this
theorem any_round {P : Program} {md : Region.Mode} {ops : Array Oper} {l n : Nat} {Q : Exit → Act → World → Prop} (hd : noDefer ops = true) (hL : ¬ LetsOut Q) : ∀ (fuel : Nat) (listed : Array Bool) (a : Act) (w : World), wpAny P md ops Q fuel listed a w → wpAnyIn (Fence.wide.inRound l) n P md ops Q fuel listed a w := by
  intro fuel
  induction fuel with
  | zero => intro listed a w h; exact h
  | succ fuel ih =>
    intro listed a w h
    refine ⟨h.1, fun i hi => ?_⟩
    have h1 := h.2 i hi
    unfold wpOp at h1
    unfold wpOpIn
    cases ho : ops[i]? with
    | none => simp only [ho] at h1 ⊢; exact ih _ _ _ h1
    | some o =>
      simp only [ho] at h1 ⊢
      split
      · rename_i hw
        simp only [hw, if_true] at h1
        rcases h1 with h1 | ⟨_, h2⟩
        · refine ⟨fun _ _ => trivial, ?_⟩
          have e : o.semAt (Fence.wide.inRound l).round a.eval = execOp a.eval o := Oper.semAt_eq _ _ _ (noDefer_spec hd ho)
          rw [e]
          exact upon_round (Oper.wp_mono (fun a w => ih _ a w) h1)
        · exact absurd h2 hL
      · rename_i hw
        simp only [hw] at h1
        exact ⟨fun _ _ => trivial, ih _ _ _ h1⟩
/-- such a region within a round goes as everywhere -/
theorem region_round {P : Program} {id : Nat} {ops : Array Oper} {l n : Nat} {Q : Exit → Act → World → Prop} {a : Act} {w : World} {S : World → Prop} (hm : P.follows .mixedOrders = true) (hd : noDefer ops = true) (hL : ¬ LetsOut Q) (hS : S w.drew)
    (h : S w.drew → wpAnyH P .any ops Q S ops.size (Array.replicate ops.size false) a w.drew) : (Code.region id ops true).wpIn (Fence.wide.inRound l) n P Q a w :=
  wpIn_region_any hm (any_round hd hL _ _ _ _ (wpAny_of_held _ _ _ _ (h hS)))
end Go.Proofs.YtijclcedjgniaaaGreat.DP

/-
  Contracts over this program: a chain goes over, from its first entry on.
-/
namespace Go.Proofs.YtijclcedjgniaaaGreat.DP
open Go.RowKit Go.Shelf
attribute [local go_sem] Oper.semAt_some
/-- clear of a slice: what stood ahead of it stays -/
theorem clear_run {P : Program} (w : World) (t e ty et : TypeId) (z : Value) (ht : P.underlying t = some (.slice e)) (hv : ∀ w, (zeroValue e).run P w = .ok z w) (h1 : ∀ u ∈ z.cells.toList, u.oneCell' = true) (b o n c : Nat) (cur : Array Value)
    (hg : w.heap[b]? = some (.cells cur et (0, 0))) (hfit : o + n * z.cells.size ≤ cur.size) :
    ∃ cur', (Builtin.clear_ #[t] ty #[.slice (some ⟨b, o, none⟩) n c]).run P w = .ok (.tuple #[]) (w.setRow b cur') ∧ cur'.size = cur.size ∧ cur'.toList.take o = cur.toList.take o := by
  cases n with
  | zero =>
    refine ⟨cur, ?_, rfl, rfl⟩
    rw [setRow_self w b cur et (0, 0) hg]
    simp [Builtin.clear_, run_underlying ht]
  | succ n =>
    have hsz : (Builtin.zeroCells z.cells (n + 1)).toList.length = (n + 1) * z.cells.size := by rw [Array.length_toList, size_zeroCells]
    have hone : ∀ u ∈ (Builtin.zeroCells z.cells (n + 1)).toList, u.oneCell' = true := by
      intro u hu
      unfold Builtin.zeroCells at hu
      rw [Array.toList_map, List.mem_map] at hu
      obtain ⟨i, hi, rfl⟩ := hu
      have hp : 0 < z.cells.size := by
        rcases Nat.eq_zero_or_pos z.cells.size with h | h
        · rw [h, Nat.mul_zero] at hi; simp at hi
        · exact h
      have hlt := Nat.mod_lt i hp
      rw [getElem!_pos z.cells _ hlt]
      exact h1 _ (by simp)
    have hst := run_storeCells_at P b o et _ 0 cur w hg (by rw [hsz]; simpa using hfit) hone
    simp only [Nat.add_zero] at hst
    refine ⟨(cur.toList.take o ++ (Builtin.zeroCells z.cells (n + 1)).toList ++ cur.toList.drop (o + (Builtin.zeroCells z.cells (n + 1)).toList.length)).toArray, by simp [Builtin.clear_, run_underlying ht, hv, hst], ?_, ?_⟩
    · rw [List.size_toArray, List.length_append, List.length_append, List.length_take, List.length_drop, hsz, Array.length_toList]
      omega
    · show List.take o (List.take o cur.toList ++ _ ++ _) = _
      rw [List.append_assoc, List.take_append_of_le_length (by simp; omega), List.take_take, Nat.min_self]
/-- the turn of a block that holds no cells -/
theorem own_turn {w w' : World} {B e s : Nat} {v : Value} {n : Nat} {xs : List Value} {row : Option Nat} (h : w.ownsRow B e s v n xs) (hg : w.grownBy w' row) (hr : ∀ k, row = some k → ∃ o : Obj, w.heap[k]? = some o ∧ o.isCells = false) : w'.ownsRow B e s v n xs := by
  refine own_kept h (fun k hk => hg.block k (own_lt h hk) (fun e => ?_))
  obtain ⟨o, h1, h2⟩ := hr k e.symm
  rcases h.2 with ⟨rfl, _⟩ | ⟨g, cap, cur, rfl, _, hh, _⟩
  · cases hk
  · cases hk
    rw [hh] at h1
    cases h1
    cases h2
theorem Tb.turn {w w' : World} {r : Roles} {t : Nat} {tv : Value} {T : Dc.Tab ByteArray (Option Addr)} {row : Option Nat} (h : Tb w r t tv T) (hg : w.grownBy w' row) (hr : ∀ k, row = some k → ∃ o : Obj, w.heap[k]? = some o ∧ o.isCells = false) : Tb w' r t tv T := by
  obtain ⟨vs, h1, h2, h3⟩ := h
  refine ⟨vs, own_turn h1 hg hr, h2, fun i c hc => ?_⟩
  obtain ⟨v, e1, e2, e3⟩ := h3 i c hc
  exact ⟨v, e1, own_turn e2 hg hr, e3⟩
theorem Tr.turn {t : Nat} {w w1 w2 : World} {r r1 : Roles} {row : Option Nat} (h : Tr t w r w1 r1) (hg : w1.grownBy w2 row) (hr : ∀ k, row = some k → w.heap.size ≤ k) : Tr t w r w2 r1 := by
  obtain ⟨⟨a1, a2, a3⟩, a4, a5, a6, a7⟩ := h
  have same : ∀ k, k < w.heap.size → w2.heap[k]? = w1.heap[k]? := fun k hk => hg.block k (by omega) (fun e => by have := hr k e.symm; omega)
  refine ⟨⟨hg.os.trans a1, hg.tape.trans a2, hg.output.trans a3⟩, Nat.le_trans a4 hg.size, fun k hk h1 h2 => ?_, fun k hk => ?_, fun k o hk ho => ?_⟩
  · rw [same k hk]; exact a5 k hk h1 h2
  · rcases a6 k hk with h | ⟨h1, h2⟩
    · exact .inl h
    · exact .inr ⟨h1, by have := hg.size; omega⟩
  · rw [same k (Array.getElem?_eq_some_iff.1 hk).1]; exact a7 k o hk ho
theorem Tr.trans {t : Nat} {w w1 w2 : World} {r r1 r2 : Roles} (h : Tr t w r w1 r1) (g : Tr t w1 r1 w2 r2) : Tr t w r w2 r2 := by
  obtain ⟨⟨a1, a2, a3⟩, a4, a5, a6, a7⟩ := h
  obtain ⟨⟨b1, b2, b3⟩, b4, b5, b6, b7⟩ := g
  refine ⟨⟨b1.trans a1, b2.trans a2, b3.trans a3⟩, Nat.le_trans a4 b4, fun k hk h1 h2 => ?_, fun k hk => ?_, fun k o hk ho => b7 k o (a7 k o hk ho) ho⟩
  · obtain ⟨c1, c2⟩ := a5 k hk h1 h2
    obtain ⟨d1, d2⟩ := b5 k (by omega) (by rw [c2]; exact h1) (by rw [c2]; exact h2)
    exact ⟨d1.trans c1, d2.trans c2⟩
  · rcases b6 k hk with h | ⟨h1, h2⟩
    · rcases a6 k h with h | ⟨h1, h2⟩
      · exact .inl h
      · exact .inr ⟨h1, by omega⟩
    · exact .inr ⟨by omega, h2⟩
theorem Tr.refl (t : Nat) (w : World) (r : Roles) : Tr t w r w r := ⟨⟨rfl, rfl, rfl⟩, Nat.le_refl _, fun _ _ _ _ => ⟨rfl, rfl⟩, fun _ h => .inl h, fun _ _ h _ => h⟩
theorem Tr.drew {t : Nat} {w w' : World} {r r' : Roles} (h : Tr t w r w' r') : Tr t w r w'.drew r' := h
/-- between two rounds: the young table has what came -/
def MvI (h : ByteArray → Nat) (W0 : World) (r : Roles) (yv : Value) (young : Dc.Tab ByteArray (Option Addr)) (c : List Ent) (pre : List (Bk c)) (W : World) : Prop := ∃ r1, Tb W r1 1 yv (Dc.pour h young (bks pre)) ∧ Tr 1 W0 r W r1
theorem MvI_own {h : ByteArray → Nat} {W0 : World} {r : Roles} {yv : Value} {young : Dc.Tab ByteArray (Option Addr)} {c : List Ent} : OwnFrom W0.heap.size (MvI h W0 r yv young c) := by
  rintro pre W W' row ⟨r1, hT, hTr⟩ hg hr
  exact ⟨r1, hT.turn hg (fun k e => (hr k e).2), hTr.turn hg (fun k e => (hr k e).1)⟩
/-- the entry's box of this round -/
def MvX (b H n1 n2 : Nat) (v v8 v11 v12 v13 : Value) {c : List Ent} (x : Bk c) (a : Act) (W : World) : Prop :=
  ∃ Bx, W.heap[Bx]? = some (.cells #[.string x.1.2.1, .pointer x.1.2.2] 197 (0, 0)) ∧ a = { tmps := #[.pointer (some ⟨b, 0, none⟩), .pointer (some ⟨H, 0, none⟩), v, undef, .pointer (some ⟨Bx, 0, none⟩), .pointer (some ⟨b, 0, none⟩), .pointer (some ⟨b, 0, none⟩), .pointer (some ⟨b, 2, none⟩), v8, .pointer (some ⟨b, 0, none⟩), .pointer (some ⟨b, 0, none⟩), v11, v12, v13, v, v, .func (.func n1) #[] #[.pointer (some ⟨n2, 0, none⟩)], .int .i64 (x.1.1 : Int), .agg #[.string x.1.2.1, .pointer x.1.2.2], undef, undef, undef, undef, undef, undef, undef, undef, undef, undef, undef, undef, undef, undef, undef, undef, undef, undef, undef, undef, undef, undef, undef, undef, undef, undef, undef], defers := [] }
theorem MvX_own {B b H n1 n2 : Nat} {v v8 v11 v12 v13 : Value} {c : List Ent} (x : Bk c) (a : Act) : OwnFrom B (fun (_ : Unit) W => MvX b H n1 n2 v v8 v11 v12 v13 x a W) := by
  rintro _ W W' row ⟨Bx, h1, h2⟩ hg hr
  refine ⟨Bx, ?_, h2⟩
  rw [hg.block Bx (Array.getElem?_eq_some_iff.1 h1).1 (fun e => ?_)]
  · exact h1
  · obtain ⟨_, o, h3, h4⟩ := hr Bx e.symm
    rw [h1] at h3
    cases h3
    cases h4
theorem pour_le {h : ByteArray → Nat} {young : Dc.Tab ByteArray (Option Addr)} {l c : List Ent} {m : Nat} (hc : c ∈ Dc.pour h young l) (hy : 0 < young.length) (hm : young.flatten.length + l.length ≤ m) : c.length ≤ m := by
  have h1 := (List.sublist_flatten_of_mem hc).length_le
  have h2 := (Dc.pour_perm h l young hy).length_eq
  rw [List.length_append] at h2
  omega
/-- what a round reads of the struct -/
def heldM (H b seed : Nat) (yv : Value) (w : World) : Prop := w.cell? ⟨H, 0, none⟩ = some (.pointer (some ⟨b, 0, none⟩)) ∧ w.cell? ⟨b, 3, none⟩ = some yv ∧ w.cell? ⟨b, 0, none⟩ = some (.int .u64 seed)
theorem heldM_kept {H b seed : Nat} {yv : Value} {w w' : World} (h : heldM H b seed yv w) (h1 : w'.heap[H]? = w.heap[H]?) (h2 : w'.heap[b]? = w.heap[b]?) : heldM H b seed yv w' :=
  ⟨(World.cell?_of_block (w := w) (a := ⟨H, 0, none⟩) h1).trans h.1, (World.cell?_of_block (w := w) (a := ⟨b, 3, none⟩) h2).trans h.2.1, (World.cell?_of_block (w := w) (a := ⟨b, 0, none⟩) h2).trans h.2.2⟩
set_option maxRecDepth 100000 in
set_option maxHeartbeats 2000000 in
theorem move_any {h : ByteArray → Nat} {seed : Nat} (hH : HashIs seed h) (w : World) (r : Roles) (b n : Nat) (s : Dc.St ByteArray (Option Addr)) (e : Ent) (c : List Ent) (hD : Dct w r b seed n s) (hc : s.old[s.pos]? = some (e :: c)) (hy : 0 < s.young.length)
    (hm0 : s.old.length ≤ maxLen) (hm1 : s.young.length ≤ maxLen) (hk : ∀ x ∈ e :: c, x.1.size ≤ maxLen) (hl : s.young.flatten.length + (e :: c).length ≤ 2600000000000) :
    Calls Tryz.prog 240 #[.pointer (some ⟨b, 0, none⟩)] w fun x w' => x = .returned (.tuple #[]) ∧ ∃ r', Dct w' r' b seed n (Dc.carry h s) ∧ Fr w r w' r' := by
  obtain ⟨ao, ca, bo, cb, h4, h5, h3⟩ := hD.cells
  have hpl : s.pos < s.old.length := (List.getElem?_eq_some_iff.1 hc).1
  obtain ⟨g, ca', e4, hrg, hgl⟩ := h4.form (by omega)
  have e5 : ao = some ⟨g, 0, none⟩ := by injection e4
  subst e5
  clear e4
  obtain ⟨v, hv1, hv2, hv3⟩ := h4.at hc
  obtain ⟨co, cc, rfl⟩ := chn_len hv2
  obtain ⟨c0, c1, c2, c3, c4, cf⟩ := five h3
  have hrb := hD.2.1
  have hbl : b < w.heap.size := hD.1 b (by rw [hrb]; simp)
  have hrH : r w.heap.size = (0, 0) := Classical.byContradiction fun hh => by have := hD.1 _ hh; omega
  have hp0 : (0 : Int) ≤ (s.pos : Int) := by omega
  have hp1 : (s.pos : Int) < (s.old.length : Int) := by omega
  have hneb : ¬ b = w.heap.size := by omega
  have hneg : ¬ g = w.heap.size := by omega
  refine callsIn_wide (n := 5) |>.1 (callsIn_of_wp_marks Tryz.func240 rfl trivial (wpIn_wide.2 ?_) rfl)
  simp only [Tryz.ntmps240, List.size_toArray, List.length_cons, List.length_nil, Nat.reduceAdd, Nat.reduceSub, Array.replicate_succ, Array.replicate_zero, List.push_toArray, List.append_toArray, List.nil_append, List.cons_append]
  go_wp2_with fail
  go_region
  go_wp2_with fail
  refine (back_any _ _ _ _).mono ?_
  rintro _ w' ⟨rfl, rfl⟩
  go_wp2
  have hsz : (((w.alloc (.cells #[.pointer (some ⟨b, 0, none⟩)] 90)).alloc (.cells #[.slice co (c.length + 1) cc] 202)).drew).heap.size = w.heap.size + 2 := by show ((w.alloc _).alloc _).heap.size = _; simp
  have hB0 : Below w.heap.size w (((w.alloc (.cells #[.pointer (some ⟨b, 0, none⟩)] 90)).alloc (.cells #[.slice co (c.length + 1) cc] 202)).drew) := (((Below.refl _ w).alloc (Nat.le_refl _) _).alloc (by simp) _).drew
  have hn0 : (((w.alloc (.cells #[.pointer (some ⟨b, 0, none⟩)] 90)).alloc (.cells #[.slice co (c.length + 1) cc] 202)).drew).cell? ⟨w.heap.size, 0, none⟩ = some (.pointer (some ⟨b, 0, none⟩)) := by simp
  have hn1 : (((w.alloc (.cells #[.pointer (some ⟨b, 0, none⟩)] 90)).alloc (.cells #[.slice co (c.length + 1) cc] 202)).drew).cell? ⟨w.heap.size + 1, 0, none⟩ = some (.slice co (c.length + 1) cc) := by simp
  generalize (((w.alloc (.cells #[.pointer (some ⟨b, 0, none⟩)] 90)).alloc (.cells #[.slice co (c.length + 1) cc] 202)).drew) = W0 at hsz hB0 hn0 hn1 ⊢
  have hv2' : Chn W0 (.slice co (c.length + 1) cc) (e :: c) := own_kept hv2 (fun k hk => hB0.block k (own_lt hv2 hk))
  have h5' : Tb W0 r 1 (.slice bo s.young.length cb) s.young := h5.kept (fun k hk _ => ⟨hB0.block k hk, rfl⟩)
  have hvk : ∀ k, (Value.slice co (c.length + 1) cc).ownBlock = some k → k < w.heap.size := fun k hk => own_lt hv2 hk
  have hrz : ∀ k, w.heap.size ≤ k → r k = (0, 0) := fun k hk => Classical.byContradiction fun hh => by have := hD.1 _ hh; omega
  have hHB : heldM w.heap.size b seed (.slice bo s.young.length cb) W0 := ⟨hn0, (hB0.cell (p := ⟨b, 3, none⟩) hbl).trans c3, (hB0.cell (p := ⟨b, 0, none⟩) hbl).trans c0⟩
  obtain ⟨yg, ycb, ye, hryg, hygl⟩ := h5.form hy
  have ye5 : bo = some ⟨yg, 0, none⟩ := by injection ye
  clear ye
  subst ye5
  refine wpIn_wide (n := 5).1 (wpIn_rangeFunc_ownH (α := Bk (e :: c)) rfl (by decide) (gf := 228) (lb := #[.pointer (some ⟨w.heap.size + 1, 0, none⟩)]) rfl trivial (enters_of Tryz.func228 (by kernel_rfl) rfl)
    (back_stops 4 (w.heap.size + 1) (.slice co (c.length + 1) cc) (e :: c) W0 (by omega) hn1 hv2') (fun h k => h.trans k) (kpB_b (by omega) (fun k hk => by have := hvk k hk; omega)) (Below.refl _ _) (fun _ => rfl)
    (MvI h W0 r (.slice (some ⟨yg, 0, none⟩) s.young.length cb) s.young (e :: c)) (fun _ _ _ => False) MvI_own (fun _ _ _ _ _ hs _ _ => hs) ⟨r, h5', Tr.refl _ _ _⟩
    (MvX b w.heap.size 228 (w.heap.size + 1) (.slice co (c.length + 1) cc) (.slice (some ⟨g, 0, none⟩) s.old.length ca) (.pointer (some ⟨b, 4, none⟩)) (.int .i64 s.pos) (.pointer (some ⟨g, s.pos, none⟩))) (fun x a => MvX_own x a) ?assign ?body ?done ?stop)
  case assign =>
    rintro l pre ⟨⟨m, e1, e2⟩, hx⟩ W K ⟨r1, hT, hTr⟩ hK
    have HK := keep hK
    clear hK
    unfold bkE
    gi_wp2
    have hW := hTr.2.1
    exact HK.out _ _ ((KeepsOthers.alloc _ _).from _) ⟨Below.heap_alloc _ _ _ (by omega), fun k hk => Below.heap_alloc _ _ _ (by have := hvk k hk; omega)⟩
      ⟨r1, hT.turn (World.grownBy_alloc _ _ none) (fun k h => by cases h), hTr.turn (World.grownBy_alloc _ _ none) (fun k h => by cases h)⟩ ⟨W.heap.size, heap_alloc_new _ _, rfl⟩
  case body =>
    rintro l pre ⟨⟨m, e1, e2⟩, hx⟩ a' W hl' ⟨rc, hrc⟩ ⟨r1, hT, hTr⟩ ⟨Bx, hBx, rfl⟩ hlt
    have eL : (Dc.pour h s.young (bks pre)).length = s.young.length := Dc.pour_len _ _ _
    have hW := hTr.2.1
    have hone : ∀ k, k < W0.heap.size → (r k).1 ≠ 2 → (r k).1 ≠ 4 → W.heap[k]? = W0.heap[k]? ∧ r1 k = r k := fun k hk h1 h2 => hTr.2.2.1 k hk (by omega) (by omega)
    have mP := push_any hH W.drew r1 1 yg cb (Dc.pour h s.young (bks pre)) (e1, e2) (by rw [eL]; exact hT) (by omega) (by omega) (hk _ hx)
      (fun k hk => by
        rcases hTr.2.2.2.1 k hk with h' | ⟨_, h'⟩
        · have := hD.1 k h'; show k < W.heap.size; omega
        · exact h')
      (fun c' hc' => pour_le hc' (by omega) (by have : pre.length < (e :: c).length := hlt; simp only [bks, List.length_map]; omega))
    rw [eL] at mP
    have hS := heldM_kept hHB (hone _ (by omega) (by rw [hrH]; simp) (by rw [hrH]; simp)).1 (hone _ (by omega) (by rw [hrb]; simp) (by rw [hrb]; simp)).1
    have b0 : W.cell? ⟨Bx, 0, none⟩ = some (.string e1) := by rw [cell_of_row _ _ _ _ _ _ hBx]; rfl
    have b1 : W.cell? ⟨Bx, 1, none⟩ = some (.pointer e2) := by rw [cell_of_row _ _ _ _ _ _ hBx]; rfl
    dsimp only
    have HP := keep mP
    have HONE := keep hone
    have HTR := keep hTr
    clear mP hone hTr hT hD h4 h5 h3 c0 c1 c2 c3 c4 cf hv1 hv2' h5' hk hl hlt hn0 hn1 hHB hBx
    gi_wp2
    refine region_round (S := heldM w.heap.size b seed (.slice (some ⟨yg, 0, none⟩) s.young.length cb)) (by kernel_rfl) (by kernel_rfl) (by rintro ⟨a, w, h⟩; exact h) hS (fun hHeld => ?_)
    refine wpAnyH_take (i := 0) (oi := { dst := some 19, op := _, type := _, pos := _, after := _, guard := _ }) (v := ?v1) rfl (by kernel_rfl) (by kernel_rfl) (by kernel_rfl) (fun _ _ _ h => h) (Or.inl ⟨by rfl, ?hy1⟩) (by assumption) ?rest1
    case hy1 => (intro w hSw; obtain ⟨q0, q1, q2⟩ := hSw; go_simp; try with_reducible rfl)
    try simp only [Act.put, List.setIfInBounds_toArray, List.set_cons_zero, List.set_cons_succ]
    refine wpAnyH_take (i := 1) (oi := { dst := some 20, op := _, type := _, pos := _, after := _, guard := _ }) (v := ?v2) rfl (by kernel_rfl) (by kernel_rfl) (by kernel_rfl) (fun _ _ _ h => h) (Or.inl ⟨by rfl, ?hy2⟩) (by assumption) ?rest2
    case hy2 => (intro w hSw; obtain ⟨q0, q1, q2⟩ := hSw; go_simp; try with_reducible rfl)
    try simp only [Act.put, List.setIfInBounds_toArray, List.set_cons_zero, List.set_cons_succ]
    refine wpAnyH_take (i := 2) (oi := { dst := some 21, op := _, type := _, pos := _, after := _, guard := _ }) (v := ?v3) rfl (by kernel_rfl) (by kernel_rfl) (by kernel_rfl) (fun _ _ _ h => h) (Or.inl ⟨by rfl, ?hy3⟩) (by assumption) ?rest3
    case hy3 => (intro w hSw; obtain ⟨q0, q1, q2⟩ := hSw; go_simp; try with_reducible rfl)
    try simp only [Act.put, List.setIfInBounds_toArray, List.set_cons_zero, List.set_cons_succ]
    refine wpAnyH_take (i := 3) (oi := { dst := some 22, op := _, type := _, pos := _, after := _, guard := _ }) (v := ?v4) rfl (by kernel_rfl) (by kernel_rfl) (by kernel_rfl) (fun _ _ _ h => h) (Or.inl ⟨by rfl, ?hy4⟩) (by assumption) ?rest4
    case hy4 => (intro w hSw; obtain ⟨q0, q1, q2⟩ := hSw; go_simp; try with_reducible rfl)
    try simp only [Act.put, List.setIfInBounds_toArray, List.set_cons_zero, List.set_cons_succ]
    refine wpAnyH_take (i := 4) (oi := { dst := some 23, op := _, type := _, pos := _, after := _, guard := _ }) (v := ?v5) rfl (by kernel_rfl) (by kernel_rfl) (by kernel_rfl) (fun _ _ _ h => h) (Or.inl ⟨by rfl, ?hy5⟩) (by assumption) ?rest5
    case hy5 => (intro w hSw; obtain ⟨q0, q1, q2⟩ := hSw; go_simp; try with_reducible rfl)
    try simp only [Act.put, List.setIfInBounds_toArray, List.set_cons_zero, List.set_cons_succ]
    refine wpAnyH_take (i := 5) (oi := { dst := some 24, op := _, type := _, pos := _, after := _, guard := _ }) (v := ?v6) rfl (by kernel_rfl) (by kernel_rfl) (by kernel_rfl) (fun _ _ _ h => h) (Or.inl ⟨by rfl, ?hy6⟩) (by assumption) ?rest6
    case hy6 => (intro w hSw; obtain ⟨q0, q1, q2⟩ := hSw; go_simp; try with_reducible rfl)
    try simp only [Act.put, List.setIfInBounds_toArray, List.set_cons_zero, List.set_cons_succ]
    refine wpAnyH_take (i := 6) (oi := { dst := some 25, op := _, type := _, pos := _, after := _, guard := _ }) (v := ?v7) rfl (by kernel_rfl) (by kernel_rfl) (by kernel_rfl) (fun _ _ _ h => h) (Or.inl ⟨by rfl, ?hy7⟩) (by assumption) ?rest7
    case hy7 => (intro w hSw; obtain ⟨q0, q1, q2⟩ := hSw; go_simp; try with_reducible rfl)
    try simp only [Act.put, List.setIfInBounds_toArray, List.set_cons_zero, List.set_cons_succ]
    refine wpAnyH_take (i := 7) (oi := { dst := some 26, op := _, type := _, pos := _, after := _, guard := _ }) (v := ?v8) rfl (by kernel_rfl) (by kernel_rfl) (by kernel_rfl) (fun _ _ _ h => h) (Or.inl ⟨by rfl, ?hy8⟩) (by assumption) ?rest8
    case hy8 => (intro w hSw; obtain ⟨q0, q1, q2⟩ := hSw; go_simp; try with_reducible rfl)
    try simp only [Act.put, List.setIfInBounds_toArray, List.set_cons_zero, List.set_cons_succ]
    refine wpAnyH_ready (rs := [8]) (by kernel_rfl) (by simp) ?_
    refine AllReadyH.cons (o := { dst := some 27, op := _, type := _, pos := _, after := _, guard := _ }) rfl (fun K hK => ?_) AllReadyH.nil
    have b0' : W.drew.cell? ⟨Bx, 0, none⟩ = some (.string e1) := b0
    have b1' : W.drew.cell? ⟨Bx, 1, none⟩ = some (.pointer e2) := b1
    go_simp
    refine hK.out _ _ hHeld (fun hHeld => ?_)
    try simp only [Act.put, List.setIfInBounds_toArray, List.set_cons_zero, List.set_cons_succ]
    refine wpAnyH_ready (rs := [9]) (by kernel_rfl) (by simp) ?_
    refine AllReadyH.cons (o := { dst := some 28, op := _, type := _, pos := _, after := _, guard := _ }) rfl (fun K hK => ?_) AllReadyH.nil
    go_simp
    refine HP.out.mono ?_
    rintro _ W' ⟨rfl, r2, hT2, hTr2⟩
    have same : ∀ k, k < W0.heap.size → (r k).1 ≠ 2 → (r k).1 ≠ 4 → W'.heap[k]? = W.heap[k]? := fun k hk h1 h2 => by
      obtain ⟨_, e'⟩ := HONE.out k hk h1 h2
      exact (hTr2.2.2.1 k (by show k < W.heap.size; omega) (by rw [e']; omega) (by rw [e']; omega)).1
    refine hK.out _ _ (heldM_kept hHeld (same _ (by omega) (by rw [hrH]; simp) (by rw [hrH]; simp)) (same _ (by omega) (by rw [hrb]; simp) (by rw [hrb]; simp))) (fun _ => ?_)
    refine wpAnyH_done (by kernel_rfl) ?_ _
    refine ⟨⟨hTr2.2.1, fun k o _ h1 h2 => hTr2.2.2.2.2 k o h1 h2⟩, ⟨same _ (by omega) (by rw [hrz _ (by omega)]; simp) (by rw [hrz _ (by omega)]; simp), fun k hk' => same k (by have := hvk k hk'; omega) (by rw [hv3 k hk']; simp) (by rw [hv3 k hk']; simp)⟩, r2, ?_, HTR.out.trans hTr2⟩
    rw [bks_snoc rfl, Dc.pour, List.foldl_append]
    exact hT2
  case done =>
    rintro D xs W hD' hS ⟨r1, hT, hTr⟩ hK
    rw [hS] at hT
    have hW := hTr.2.1
    have hone : ∀ k, k < W0.heap.size → (r k).1 ≠ 2 → (r k).1 ≠ 4 → W.heap[k]? = W0.heap[k]? ∧ r1 k = r k := fun k hk h1 h2 => hTr.2.2.1 k hk (by omega) (by omega)
    have hold : ∀ k, k < w.heap.size → (r k).1 ≠ 2 → (r k).1 ≠ 4 → W.heap[k]? = w.heap[k]? ∧ r1 k = r k := fun k hk h1 h2 => ⟨(hone k (by omega) h1 h2).1.trans (hB0.block k hk), (hone k (by omega) h1 h2).2⟩
    have hT0 : Tb W r1 0 (.slice (some ⟨g, 0, none⟩) s.old.length ca) s.old := h4.kept (fun k hk hr => hold k hk (by omega) (by omega))
    rcases hv2.form with ⟨_, hh⟩ | ⟨gv, cap, hh, hgv, hcap, hm⟩
    · cases hh
    have hco : co = some ⟨gv, 0, none⟩ := by injection hh
    clear hh
    subst hco
    have hrgv := hv3 gv rfl
    have hbW : W.heap[b]? = _ := (hold b hbl (by rw [hrb]; simp) (by rw [hrb]; simp)).1.trans h3
    have hHW : W.cell? ⟨w.heap.size, 0, none⟩ = some (.pointer (some ⟨b, 0, none⟩)) := (World.cell?_of_block (w := W0) (a := ⟨w.heap.size, 0, none⟩) (hone w.heap.size (by omega) (by rw [hrH]; simp) (by rw [hrH]; simp)).1).trans hn0
    have hC : Chn W (.slice (some ⟨gv, 0, none⟩) (e :: c).length cc) (e :: c) := own_kept hv2 (fun k hk => (hold k (own_lt hv2 hk) (by rw [hv3 k hk]; simp) (by rw [hv3 k hk]; simp)).1)
    obtain ⟨cur, hcur, hfit⟩ : ∃ cur, W.heap[gv]? = some (.cells cur 197 (0, 0)) ∧ (c.length + 1) * 2 ≤ cur.size := by
      rcases hC.2 with ⟨h', _⟩ | ⟨g', cap', cur, h', _, hh, q1, _, q2, _⟩
      · cases h'
      · cases h'
        exact ⟨cur, hh, by rw [q2]; exact Nat.mul_le_mul_right _ q1⟩
    obtain ⟨cur', hcl, hcs, _⟩ := clear_run (P := Tryz.prog) W 202 197 0 197 _ Tryz.underlying202 Tryz.zeroValue197 (by simp [Value.cells, Value.oneCell']) gv 0 (c.length + 1) cc cur hcur (by simpa [Value.cells] using hfit)
    have hneg2 : gv ≠ g := fun e' => by rw [e', hrg] at hrgv; simp at hrgv
    have hneb2 : gv ≠ b := fun e' => by rw [e', hrb] at hrgv; simp at hrgv
    have hgb : g ≠ b := fun e' => by rw [e', hrb] at hrg; simp at hrg
    obtain ⟨W2, hW2⟩ : ∃ W2, W2 = W.setRow gv cur' := ⟨_, rfl⟩
    rw [← hW2] at hcl
    have h2o : ∀ k, k ≠ gv → W2.heap[k]? = W.heap[k]? := fun k hk => by rw [hW2]; exact setRow_other W gv k _ hk
    have h2s : W2.heap.size = W.heap.size := by rw [hW2]; simp
    have h2w : W2.os = W.os ∧ W2.tape = W.tape ∧ W2.output = W.output := by rw [hW2]; exact ⟨rfl, rfl, rfl⟩
    clear hW2
    have hb2 : W2.heap[b]? = _ := (h2o b (Ne.symm hneb2)).trans hbW
    obtain ⟨d0, d1, d2, d3, d4, df⟩ := five hb2
    have hH2 : W2.cell? ⟨w.heap.size, 0, none⟩ = some (.pointer (some ⟨b, 0, none⟩)) := (World.cell?_of_block (w := W) (a := ⟨w.heap.size, 0, none⟩) (h2o w.heap.size (by omega))).trans hHW
    have hg2 : W2.cell? ⟨g, s.pos, none⟩ = some (.slice (some ⟨gv, 0, none⟩) (c.length + 1) cc) := by
      rw [World.cell?_of_block (w := W) (a := ⟨g, s.pos, none⟩) (h2o g (Ne.symm hneg2)), World.cell?_of_block (w := w) (a := ⟨g, s.pos, none⟩) (hold g hgl (by rw [hrg]; simp) (by rw [hrg]; simp)).1]
      exact hv1
    have hf2 : W2.frozen? ⟨g, s.pos, none⟩ = false := by
      rw [World.frozen?_of_block (w := W) (a := ⟨g, s.pos, none⟩) (h2o g (Ne.symm hneg2))]
      exact hT0.free _
    have f4 := df 4
    clear c0 c1 c2 c3 c4 cf d0 d1 d3 df
    have hw1 : IntKind.i64.wrap ((s.pos : Int) + 1) = ((s.pos + 1 : Nat) : Int) := by unfold maxLen at hm0; rw [IntKind.wrap_i64]; omega
    go_wp2_with fail
    go_region_held3 (fun w' => w'.cell? ⟨w.heap.size, 0, none⟩ = some (.pointer (some ⟨b, 0, none⟩)) ∧ w'.cell? ⟨b, 2, none⟩ = some (.slice (some ⟨g, 0, none⟩) s.old.length ca) ∧ w'.cell? ⟨b, 4, none⟩ = some (.int .i64 s.pos)) (first | go_keep) (fail)
    go_wp2
    have hDg : D ≠ g := by omega
    have hDb : D ≠ b := by omega
    have hDv : D ≠ gv := by omega
    have hKD : ((W2.drew.setCell ⟨g, s.pos, none⟩ (.slice none 0 0)).setCell ⟨b, 4, none⟩ (.int .i64 ((s.pos + 1 : Nat) : Int))).heap[D]? = some (.deferred (some [])) := by
      rw [Below.heap_setCell _ _ _ _ hDb, Below.heap_setCell _ _ _ _ hDg]
      exact (h2o D hDv).trans hK
    refine ⟨by simp, .inl ⟨_, _, rfl, run_takeDeferred hKD, ?_⟩⟩
    refine ⟨_, results_none rfl _ _ _, rfl, ?_⟩
    show ∃ r', Dct (((W2.drew.setCell ⟨g, s.pos, none⟩ (.slice none 0 0)).setCell ⟨b, 4, none⟩ (.int .i64 ((s.pos + 1 : Nat) : Int))).putObj D (.deferred none)) r' b seed n (Dc.carry h s) ∧ Fr w r (((W2.drew.setCell ⟨g, s.pos, none⟩ (.slice none 0 0)).setCell ⟨b, 4, none⟩ (.int .i64 ((s.pos + 1 : Nat) : Int))).putObj D (.deferred none)) r'
    refine ⟨r1, ?_⟩
    have hTold : Tb (W2.drew.setCell ⟨g, s.pos, none⟩ (.slice none 0 0)) r1 0 (.slice (some ⟨g, 0, none⟩) s.old.length ca) (s.old.set s.pos []) := by
      have := hT0.put (w1 := W2.drew) (c' := []) (v' := .slice none 0 0) hc (h2o g (Ne.symm hneg2)) (fun k j hk hr hj => h2o k (fun e' => ?_)) ⟨rfl, .inl ⟨rfl, rfl⟩⟩ (fun k hk => by cases hk)
      · have e2 : role r1 (.slice none 0 0) (3 + 0, s.pos) = r1 := by funext k; simp [role, Value.ownBlock]
        rw [e2] at this
        exact this
      · rw [e', (hold gv hgv (by rw [hrgv]; simp) (by rw [hrgv]; simp)).2, hrgv] at hr
        simp at hr
        exact hj hr.symm
    have hr1b : r1 b = (5, 0) := (hold b hbl (by rw [hrb]; simp) (by rw [hrb]; simp)).2.trans hrb
    have hr1g : r1 g = (1 + 0, 0) := (hold g hgl (by rw [hrg]; simp) (by rw [hrg]; simp)).2.trans hrg
    have hr1v : r1 gv = (3 + 0, s.pos) := (hold gv hgv (by rw [hrgv]; simp) (by rw [hrgv]; simp)).2.trans hrgv
    have hDW : D < W.heap.size := (Array.getElem?_eq_some_iff.1 hK).1
    have f5 : ∀ k, k ≠ g → k ≠ b → k ≠ D → k ≠ gv → (((W2.drew.setCell ⟨g, s.pos, none⟩ (.slice none 0 0)).setCell ⟨b, 4, none⟩ (.int .i64 ((s.pos + 1 : Nat) : Int))).putObj D (.deferred none)).heap[k]? = W.heap[k]? := fun k q1 q2 q3 q4 => by
      rw [World.putObj_heap_other q3, Below.heap_setCell _ _ _ _ q2, Below.heap_setCell _ _ _ _ q1]
      exact h2o k q4
    have s5 : (((W2.drew.setCell ⟨g, s.pos, none⟩ (.slice none 0 0)).setCell ⟨b, 4, none⟩ (.int .i64 ((s.pos + 1 : Nat) : Int))).putObj D (.deferred none)).heap.size = W.heap.size := by
      rw [← h2s]; simp [World.setCell, World.putObj]
    have hcar : Dc.carry h s = { old := s.old.set s.pos [], young := Dc.pour h s.young (e :: c), pos := s.pos + 1 } := by unfold Dc.carry; rw [hc]
    have f4' : ∀ k, k ≠ g → k ≠ b → k ≠ gv → ((W2.drew.setCell ⟨g, s.pos, none⟩ (.slice none 0 0)).setCell ⟨b, 4, none⟩ (.int .i64 ((s.pos + 1 : Nat) : Int))).heap[k]? = W.heap[k]? := fun k q1 q2 q4 => by
      rw [Below.heap_setCell _ _ _ _ q2, Below.heap_setCell _ _ _ _ q1]
      exact h2o k q4
    have hrow : ∀ k, some D = some k → ∃ o : Obj, ((W2.drew.setCell ⟨g, s.pos, none⟩ (.slice none 0 0)).setCell ⟨b, 4, none⟩ (.int .i64 ((s.pos + 1 : Nat) : Int))).heap[k]? = some o ∧ o.isCells = false := fun k e' => by cases e'; exact ⟨_, hKD, rfl⟩
    refine ⟨?_, ⟨?_, ?_⟩, by rw [s5]; omega, fun k hk' hr => ?_⟩
    · rw [hcar]
      refine ⟨fun k hk => ?_, hr1b, .slice (some ⟨g, 0, none⟩) s.old.length ca, .slice (some ⟨yg, 0, none⟩) s.young.length cb, ?_, ?_, ?_⟩
      · rw [s5]
        rcases hTr.2.2.2.1 k hk with h' | ⟨_, h'⟩
        · have := hD.1 k h'; omega
        · exact h'
      · rw [World.putObj_heap_other (Ne.symm hDb)]
        have hb3 : (W2.drew.setCell ⟨g, s.pos, none⟩ (.slice none 0 0)).heap[b]? = _ := (Below.heap_setCell _ _ _ _ (Ne.symm hgb)).trans hb2
        exact cells_setCell hb3
      · exact (hTold.kept (w' := (W2.drew.setCell ⟨g, s.pos, none⟩ (.slice none 0 0)).setCell ⟨b, 4, none⟩ (.int .i64 ((s.pos + 1 : Nat) : Int))) (r' := r1) (fun k _ hr => ⟨Below.heap_setCell _ _ _ _ (fun e' => by rw [e', hr1b] at hr; simp at hr), rfl⟩)).turn (grownBy_putObj' _ D _) hrow
      · exact (hT.kept (w' := (W2.drew.setCell ⟨g, s.pos, none⟩ (.slice none 0 0)).setCell ⟨b, 4, none⟩ (.int .i64 ((s.pos + 1 : Nat) : Int))) (r' := r1) (fun k _ hr => ⟨f4' k (fun e' => by rw [e', hr1g] at hr; simp at hr) (fun e' => by rw [e', hr1b] at hr; simp at hr) (fun e' => by rw [e', hr1v] at hr; simp at hr), rfl⟩)).turn (grownBy_putObj' _ D _) hrow
    · exact h2w.1.trans (hTr.1.1.trans hB0.os)
    · exact ⟨h2w.2.1.trans (hTr.1.2.1.trans hB0.tape), h2w.2.2.trans (hTr.1.2.2.trans hB0.output)⟩
    · have q := hold k hk' (by rw [hr]; simp) (by rw [hr]; simp)
      exact ⟨(f5 k (fun e' => by rw [e', hrg] at hr; simp at hr) (fun e' => by rw [e', hrb] at hr; simp at hr) (by omega) (fun e' => by rw [e', hrgv] at hr; simp at hr)).trans q.1, q.2.trans hr⟩
  case stop =>
    rintro D c pre W _ _ h _
    exact h.elim
end Go.Proofs.YtijclcedjgniaaaGreat.DP

/-
  What a change of one entry makes of a table: plain mathematics, and the memory.
-/
namespace Go.Proofs.YtijclcedjgniaaaGreat.DP
open Go.RowKit Go.Shelf
theorem split_at {α : Type} {l : List α} {p : Nat} {a : α} (h : l[p]? = some a) : l = l.take p ++ a :: l.drop (p + 1) := by
  have hl := (List.getElem?_eq_some_iff.1 h).1
  rw [List.getElem?_eq_getElem hl] at h
  rw [← Option.some.inj h, ← List.drop_eq_getElem_cons hl, List.take_append_drop]
theorem rest_ne {l : List Ent} {p : Nat} {key : ByteArray} {x : Option Addr} (hn : (Dc.keys l).Nodup) (h : l[p]? = some (key, x)) : (∀ e ∈ l.take p, e.1 ≠ key) ∧ ∀ e ∈ l.drop (p + 1), e.1 ≠ key := by
  have hs := split_at h
  rw [hs] at hn
  simp only [Dc.keys, List.map_append, List.map_cons] at hn
  obtain ⟨_, h2, h3⟩ := List.nodup_append.1 hn
  obtain ⟨h4, _⟩ := List.nodup_cons.1 h2
  refine ⟨fun e he hk => h3 e.1 (List.mem_map.2 ⟨e, he, rfl⟩) key (by simp) hk, fun e he hk => h4 (List.mem_map.2 ⟨e, he, hk⟩)⟩
theorem map_same {α : Type} {f : α → α} {l : List α} (h : ∀ e ∈ l, f e = e) : l.map f = l := by
  conv => rhs; rw [← List.map_id l]
  exact List.map_congr_left h
theorem keys_rev {c : List Ent} (hn : (Dc.keys c).Nodup) : (Dc.keys c.reverse).Nodup := by
  unfold Dc.keys at *
  rw [List.map_reverse]
  exact (List.reverse_perm _).nodup_iff.2 hn
theorem alter_at {c : List Ent} {p : Nat} {key : ByteArray} {x v : Option Addr} (hn : (Dc.keys c).Nodup) (h : c.reverse[p]? = some (key, x)) : (c.reverse.set p (key, v)).reverse = Dc.alter key v c := by
  obtain ⟨h1, h2⟩ := rest_ne (keys_rev hn) h
  have hs := split_at h
  have e1 : c.reverse.set p (key, v) = Dc.alter key v c.reverse := by
    have hl := (List.getElem?_eq_some_iff.1 h).1
    rw [List.set_eq_take_append_cons_drop, if_pos hl]
    unfold Dc.alter
    conv => rhs; rw [hs]
    rw [List.map_append, List.map_cons, if_pos rfl]
    congr 1
    · exact (map_same (fun e he => if_neg (h1 e he))).symm
    · congr 1
      exact (map_same (fun e he => if_neg (h2 e he))).symm
  rw [e1]
  unfold Dc.alter
  rw [List.map_reverse, List.reverse_reverse]
theorem without_at {c : List Ent} {p : Nat} {key : ByteArray} {x : Option Addr} (hn : (Dc.keys c).Nodup) (h : c.reverse[p]? = some (key, x)) : (c.reverse.eraseIdx p).reverse = Dc.without key c := by
  obtain ⟨h1, h2⟩ := rest_ne (keys_rev hn) h
  have hs := split_at h
  have e1 : c.reverse.eraseIdx p = Dc.without key c.reverse := by
    rw [List.eraseIdx_eq_take_drop_succ]
    unfold Dc.without
    conv => rhs; rw [hs]
    rw [List.filter_append, List.filter_cons, if_neg (by simp), List.filter_eq_self.2 (fun e he => decide_eq_true (h1 e he)), List.filter_eq_self.2 (fun e he => decide_eq_true (h2 e he))]
  rw [e1]
  unfold Dc.without
  rw [List.filter_reverse, List.reverse_reverse]
theorem chain_nodup {h : ByteArray → Nat} {s : Dc.St ByteArray (Option Addr)} (hI : Dc.Inv h s) {T : Dc.Tab ByteArray (Option Addr)} (hT : T = s.old ∨ T = s.young) {c : List Ent} (hc : c ∈ T) : (Dc.keys c).Nodup := by
  have hn := hI.nodup
  simp only [Dc.keys, List.map_append] at hn
  obtain ⟨h0, h1, _⟩ := List.nodup_append.1 hn
  have hsl : (Dc.keys c).Sublist (Dc.keys T.flatten) := (List.sublist_flatten_of_mem hc).map _
  rcases hT with rfl | rfl
  · exact hsl.nodup h0
  · exact hsl.nodup h1
theorem mod_set {T : Dc.Tab ByteArray (Option Addr)} {i : Nat} {c : List Ent} (f : List Ent → List Ent) (hc : T[i]? = some c) : T.modify i f = T.set i (f c) := by
  rw [List.modify_eq_set, hc]; rfl
theorem every_old {h : ByteArray → Nat} {s : Dc.St ByteArray (Option Addr)} (hI : Dc.Inv h s) {key : ByteArray} {x : Option Addr} {c : List Ent} (f : List Ent → List Ent) (hf : ∀ c : List Ent, (∀ e ∈ c, e.1 ≠ key) → f c = c) (hc : s.old[h key % s.old.length]? = some c) (hx : (key, x) ∈ c) :
    Dc.every f s = { s with old := s.old.set (h key % s.old.length) (f c) } := by
  unfold Dc.every
  rw [← Dc.modify_map hI.put0 key f hf, mod_set f hc]
  congr 1
  refine map_same (fun d hd => hf d (fun e he hk => ?_))
  have hn := hI.nodup
  simp only [Dc.keys, List.map_append] at hn
  exact (List.nodup_append.1 hn).2.2 key (List.mem_map.2 ⟨(key, x), List.mem_flatten.2 ⟨c, List.mem_of_getElem? hc, hx⟩, rfl⟩) e.1 (List.mem_map.2 ⟨e, List.mem_flatten.2 ⟨d, hd, he⟩, rfl⟩) hk.symm
theorem every_young {h : ByteArray → Nat} {s : Dc.St ByteArray (Option Addr)} (hI : Dc.Inv h s) {key : ByteArray} {x : Option Addr} {c : List Ent} (f : List Ent → List Ent) (hf : ∀ c : List Ent, (∀ e ∈ c, e.1 ≠ key) → f c = c) (hc : s.young[h key % s.young.length]? = some c) (hx : (key, x) ∈ c) :
    Dc.every f s = { s with young := s.young.set (h key % s.young.length) (f c) } := by
  unfold Dc.every
  rw [← Dc.modify_map hI.put1 key f hf, mod_set f hc]
  congr 1
  refine map_same (fun d hd => hf d (fun e he hk => ?_))
  have hn := hI.nodup
  simp only [Dc.keys, List.map_append] at hn
  exact (List.nodup_append.1 hn).2.2 e.1 (List.mem_map.2 ⟨e, List.mem_flatten.2 ⟨d, hd, he⟩, rfl⟩) key (List.mem_map.2 ⟨(key, x), List.mem_flatten.2 ⟨c, List.mem_of_getElem? hc, hx⟩, rfl⟩) hk
theorem look_found {h : ByteArray → Nat} {s : Dc.St ByteArray (Option Addr)} (hI : Dc.Inv h s) {T : Dc.Tab ByteArray (Option Addr)} (hT : T = s.old ∨ T = s.young) {key : ByteArray} {x : Option Addr} {c : List Ent} (hc : c ∈ T) (hx : (key, x) ∈ c) : Dc.look key (Dc.all s) = some x := by
  rw [Dc.all_eq hI]
  refine (Dc.look_mem hI.nodup key x).2 (List.mem_append.2 ?_)
  rcases hT with rfl | rfl
  · exact .inl (List.mem_flatten.2 ⟨c, hc, hx⟩)
  · exact .inr (List.mem_flatten.2 ⟨c, hc, hx⟩)
theorem look_missed {h : ByteArray → Nat} {s : Dc.St ByteArray (Option Addr)} (hI : Dc.Inv h s) {key : ByteArray} (h0 : ∀ x ∈ Dc.chain h s.old key, x.1 ≠ key) (h1 : ∀ x ∈ Dc.chain h s.young key, x.1 ≠ key) : Dc.look key (Dc.all s) = none := by
  rw [← Dc.seek hI key]
  have n0 : Dc.look key (Dc.chain h s.old key) = none := (Dc.look_none key).2 (fun hm => by obtain ⟨e, he, hk⟩ := List.mem_map.1 hm; exact h0 e he hk)
  have n1 : Dc.look key (Dc.chain h s.young key) = none := (Dc.look_none key).2 (fun hm => by obtain ⟨e, he, hk⟩ := List.mem_map.1 hm; exact h1 e he hk)
  rw [n0, n1]; rfl
/- the memory -/
theorem set_odd {l : List Ent} {p : Nat} {key : ByteArray} {x v : Option Addr} (h : l[p]? = some (key, x)) : (l.flatMap enE).set (p * 2 + 1) (.pointer v) = (l.set p (key, v)).flatMap enE := by
  induction l generalizing p with
  | nil => simp at h
  | cons a l ih =>
    cases p with
    | zero => simp at h; subst h; simp [enE]
    | succ p =>
      rw [List.set_cons_succ, List.flatMap_cons, List.flatMap_cons, ← ih (by simpa using h), List.set_append_right _ _ (by simp [enE]; omega)]
      congr 2
      simp [enE]; omega
theorem chn_set {w : World} {g n cap p : Nat} {c : List Ent} {key : ByteArray} {x v : Option Addr} (hC : Chn w (.slice (some ⟨g, 0, none⟩) n cap) c) (hp : c.reverse[p]? = some (key, x)) : Chn (w.setCell ⟨g, p * 2 + 1, none⟩ (.pointer v)) (.slice (some ⟨g, 0, none⟩) n cap) (c.reverse.set p (key, v)).reverse := by
  obtain ⟨h1, h2⟩ := hC
  have hl : ((c.reverse.set p (key, v)).reverse).length = c.length := by simp
  unfold Chn
  rw [hl]
  refine ⟨by rw [enC_len, hl], ?_⟩
  rcases h2 with ⟨e, _⟩ | ⟨g', cap', cur, e, _, hh, q1, q2, q3, q4⟩
  · cases e
  · cases e
    refine .inr ⟨g, cap, _, rfl, Nat.zero_le _, cells_setCell hh, q1, q2, by simpa using q3, ?_⟩
    rw [take_set q4]
    unfold enC
    rw [List.reverse_reverse]
    exact set_odd hp
/-- a chain turns within its own block -/
theorem Tb.swap {w w' : World} {r : Roles} {t g cap n i : Nat} {T : Dc.Tab ByteArray (Option Addr)} {c c' : List Ent} {v : Value} (h : Tb w r t (.slice (some ⟨g, 0, none⟩) n cap) T) (hi : T[i]? = some c) (hv : w.cell? ⟨g, i, none⟩ = some v) (hC : Chn w' v c') (hr : ∀ k, v.ownBlock = some k → r k = (3 + t, i))
    (hk : ∀ k, k < w.heap.size → v.ownBlock ≠ some k → w'.heap[k]? = w.heap[k]?) : Tb w' r t (.slice (some ⟨g, 0, none⟩) n cap) (T.set i c') := by
  obtain ⟨vs, h1, h2, h3⟩ := h
  have hil : i < T.length := (List.getElem?_eq_some_iff.1 hi).1
  have hvg : v.ownBlock ≠ some g := fun e => by have := hr g e; rw [h2 g rfl] at this; simp at this
  refine ⟨vs, by rw [List.length_set]; exact own_kept h1 (fun k e => hk k (own_lt h1 e) (by cases e; exact hvg)), h2, fun j d hd => ?_⟩
  rw [List.getElem?_set] at hd
  by_cases hij : i = j
  · subst hij
    rw [if_pos rfl, if_pos hil] at hd
    cases hd
    obtain ⟨v', e1, e2, e3⟩ := h3 i c hi
    have := h1.cells (g := g) rfl i v' e1
    rw [show (⟨g, 0, none⟩ : Addr).add i = ⟨g, i, none⟩ by unfold Addr.add; split <;> simp_all, hv] at this
    cases this
    exact ⟨v, e1, hC, e3⟩
  · rw [if_neg hij] at hd
    obtain ⟨v', e1, e2, e3⟩ := h3 j d hd
    refine ⟨v', e1, own_kept e2 (fun k e => hk k (own_lt e2 e) (fun e' => ?_)), e3⟩
    have a := e3 k e
    rw [hr k e'] at a
    simp at a
    exact hij a
end Go.Proofs.YtijclcedjgniaaaGreat.DP

namespace Go.Proofs.YtijclcedjgniaaaGreat.DP
open Go.RowKit Go.Shelf
/-- what find hands back -/
def Sought (w : World) (r : Roles) (b : Nat) (s : Dc.St ByteArray (Option Addr)) (h : ByteArray → Nat) (key : ByteArray) (e : Ending) : Prop :=
  (e = .returned (.tuple #[.slice none 0 0, .int .i64 0, .int .i64 (-1)]) ∧ (∀ x ∈ Dc.chain h s.old key, x.1 ≠ key) ∧ ∀ x ∈ Dc.chain h s.young key, x.1 ≠ key) ∨
  ∃ (t g cap p : Nat) (T : Dc.Tab ByteArray (Option Addr)) (x : Option Addr), ((t = 0 ∧ T = s.old) ∨ (t = 1 ∧ T = s.young)) ∧ 0 < T.length ∧ Tb w r t (.slice (some ⟨g, 0, none⟩) T.length cap) T ∧ w.cell? ⟨b, 2 + t, none⟩ = some (.slice (some ⟨g, 0, none⟩) T.length cap) ∧ (Dc.chain h T key).reverse[p]? = some (key, x) ∧
    e = .returned (.tuple #[.slice (some ⟨g, 0, none⟩) T.length cap, .int .i64 ((h key % T.length : Nat) : Int), .int .i64 p])
theorem sought_at {w : World} {r : Roles} {b : Nat} {s : Dc.St ByteArray (Option Addr)} {h : ByteArray → Nat} {key : ByteArray} {t g cap p : Nat} {T : Dc.Tab ByteArray (Option Addr)} {x : Option Addr} (h1 : (t = 0 ∧ T = s.old) ∨ (t = 1 ∧ T = s.young)) (h2 : 0 < T.length) (h3 : Tb w r t (.slice (some ⟨g, 0, none⟩) T.length cap) T) (h5 : w.cell? ⟨b, 2 + t, none⟩ = some (.slice (some ⟨g, 0, none⟩) T.length cap)) (h4 : (Dc.chain h T key).reverse[p]? = some (key, x)) :
    Sought w r b s h key (.returned (.tuple #[.slice (some ⟨g, 0, none⟩) T.length cap, .int .i64 ((h key % T.length : Nat) : Int), .int .i64 p])) := .inr ⟨t, g, cap, p, T, x, h1, h2, h3, h5, h4, rfl⟩
theorem chain_none {h : ByteArray → Nat} {T : Dc.Tab ByteArray (Option Addr)} {key : ByteArray} (hT : T.length = 0) : ∀ x ∈ Dc.chain h T key, x.1 ≠ key := by
  rw [List.length_eq_zero_iff.1 hT]
  intro x hx
  simp [Dc.chain] at hx
theorem idx0 (a b : Option Addr) (n c m d : Nat) (w : World) : (Instr.index 337 (.agg #[.slice a n c, .slice b m d]) (.int .i64 0)).run Tryz.prog w = .ok (.slice a n c) w := by kernel_rfl
theorem idx1 (a b : Option Addr) (n c m d : Nat) (w : World) : (Instr.index 337 (.agg #[.slice a n c, .slice b m d]) (.int .i64 1)).run Tryz.prog w = .ok (.slice b m d) w := by kernel_rfl
set_option maxRecDepth 100000 in
set_option maxHeartbeats 2000000 in
theorem seek_any {h : ByteArray → Nat} {seed : Nat} (hH : HashIs seed h) (w : World) (r : Roles) (b n : Nat) (s : Dc.St ByteArray (Option Addr)) (key : ByteArray) (hD : Dct w r b seed n s) (hk : key.size ≤ maxLen) (hm0 : s.old.length ≤ maxLen) (hm1 : s.young.length ≤ maxLen) :
    Calls Tryz.prog 189 #[.pointer (some ⟨b, 0, none⟩), .string key] w fun e w' => Sought w r b s h key e ∧ Below w.heap.size w w' := by
  obtain ⟨ao, ca, bo, cb, h4, h5, h3⟩ := hD.cells
  obtain ⟨c0, c1, c2, c3, c4, cf⟩ := five h3
  have H4 := keep h4
  have H5 := keep h5
  have mH := (hH key hk).2 w
  clear h3 h4 h5 c1 c4 cf hD
  go_enter Tryz.func189, Tryz.ntmps189
  go_wp2_with fail
  refine mH.mono ?_
  rintro _ w' ⟨rfl, hw'⟩
  subst hw'
  go_wp2_with fail
  go_quiet (fail)
  go_wp2
  clear mH c0
  go_loopw [27] (fun i wr => ∃ k : Nat, k ≤ 2 ∧ i = .int .i64 k ∧ Kept (Below w'.heap.size w' wr) ∧ Kept (0 < k → ∀ x ∈ Dc.chain h s.old key, x.1 ≠ key) ∧ Kept (1 < k → ∀ x ∈ Dc.chain h s.young key, x.1 ≠ key)) (fun i _ => 2 - (intOf i).toNat)
  case atStart => exact ⟨0, by omega, rfl, below_drewN (Below.refl _ _) _, fun h => absurd h (by omega), fun h => absurd h (by omega)⟩
  case round =>
    obtain ⟨k, hk2, rfl, BW, N0, N1⟩ := hrel
    have hk3 : k = 0 ∨ k = 1 ∨ k = 2 := by omega
    rcases hk3 with rfl | rfl | rfl
    · have ix := idx0 ao bo s.old.length ca s.young.length cb wr
      by_cases hT0 : (s.old).length = 0
      · have e0 : ((s.old.length : Int) == 0) = true := by rw [hT0]; rfl
        have hnone := keep (chain_none (h := h) (key := key) hT0)
        clear hT0
        go_wp2
        go_roundw
        case measure => simp [intOf]
        case rel => exact ⟨1, by omega, rfl, BW, fun _ => hnone.out, fun h => absurd h (by omega)⟩
      · obtain ⟨g, cap, e5, hrg, hgl⟩ := H4.out.form (by omega)
        have e6 : ao = some ⟨g, 0, none⟩ := by injection e5
        clear e5
        subst e6
        have hlen : ((s.old.length : Int) == 0) = false := beq_eq_false_iff_ne.2 (by omega)
        have hlt : h key % s.old.length < s.old.length := Nat.mod_lt _ (by omega)
        obtain ⟨c, hc⟩ : ∃ c, s.old[h key % s.old.length]? = some c := ⟨_, List.getElem?_eq_getElem hlt⟩
        have hch : Dc.chain h s.old key = c := by unfold Dc.chain; rw [hc]; rfl
        obtain ⟨v, hv1, hv2, _⟩ := H4.out.at hc
        have mO := of_any wr (some ⟨g, 0, none⟩) s.old.length ca (h key) (by omega) hm0 (hH key hk).1
        have mF := cfind_any wr v c key (own_kept hv2 (fun k hk => BW.out.block k (own_lt hv2 hk)))
        have hcell : wr.cell? ⟨g, h key % s.old.length, none⟩ = some v := (BW.out.cell (p := ⟨g, h key % s.old.length, none⟩) hgl).trans hv1
        have HF := keep (fun (p : Nat) (x : Option Addr) (hp : c.reverse[p]? = some (key, x)) => sought_at (s := s) (key := key) (h := h) (t := 0) (T := s.old) (g := g) (cap := ca) (w := w') (r := r) (p := p) (x := x) (.inl ⟨rfl, rfl⟩) (by omega) H4.out c2 (by rw [hch]; exact hp))
        have HCH := keep hch
        clear hv1 hv2 hc hch
        generalize hix : h key % s.old.length = i at *
        have HIX := keep hix
        clear hix
        have hi0 : (0 : Int) ≤ (i : Int) := by omega
        have hi1 : (i : Int) < (s.old.length : Int) := by omega
        obtain ⟨wo, hwo⟩ : ∃ x, x = wr := ⟨_, rfl⟩
        subst hwo
        go_wp2_with fail
        refine mO.mono ?_
        rintro _ w' ⟨rfl, hw'⟩
        obtain rfl := hw'.symm
        go_wp2_with fail
        refine mF.mono ?_
        rintro _ w2 ⟨⟨q, rfl, hq⟩, hb2⟩
        have HB2 := keep hb2
        clear hb2 mO mF
        rcases hq with ⟨rfl, hno⟩ | ⟨p, x, rfl, hpl, hp⟩
        · have HNO := keep hno
          clear hno
          go_wp2
          go_roundw
          case measure => simp [intOf]
          case rel => exact ⟨1, by omega, rfl, BW.out.trans (HB2.out.mono BW.out.size), fun _ => by show ∀ x ∈ Dc.chain h s.old key, _; rw [HCH.out]; exact HNO.out, fun h => absurd h (by omega)⟩
        · have HP := keep hp
          clear hp
          have hp0 : (0 : Int) ≤ (p : Int) := by omega
          go_wp2
          refine bodyPost_ret (results_tmp3 rfl _ _ _) rfl ?_
          exact ⟨HF.out p x HP.out, BW.out.trans (HB2.out.mono BW.out.size)⟩
    · have ix := idx1 ao bo s.old.length ca s.young.length cb wr
      by_cases hT0 : (s.young).length = 0
      · have e0 : ((s.young.length : Int) == 0) = true := by rw [hT0]; rfl
        have hnone := keep (chain_none (h := h) (key := key) hT0)
        clear hT0
        go_wp2
        go_roundw
        case measure => simp [intOf]
        case rel => exact ⟨2, by omega, rfl, BW, fun _ => N0.out (by omega), fun _ => hnone.out⟩
      · obtain ⟨g, cap, e5, hrg, hgl⟩ := H5.out.form (by omega)
        have e6 : bo = some ⟨g, 0, none⟩ := by injection e5
        clear e5
        subst e6
        have hlen : ((s.young.length : Int) == 0) = false := beq_eq_false_iff_ne.2 (by omega)
        have hlt : h key % s.young.length < s.young.length := Nat.mod_lt _ (by omega)
        obtain ⟨c, hc⟩ : ∃ c, s.young[h key % s.young.length]? = some c := ⟨_, List.getElem?_eq_getElem hlt⟩
        have hch : Dc.chain h s.young key = c := by unfold Dc.chain; rw [hc]; rfl
        obtain ⟨v, hv1, hv2, _⟩ := H5.out.at hc
        have mO := of_any wr (some ⟨g, 0, none⟩) s.young.length cb (h key) (by omega) hm1 (hH key hk).1
        have mF := cfind_any wr v c key (own_kept hv2 (fun k hk => BW.out.block k (own_lt hv2 hk)))
        have hcell : wr.cell? ⟨g, h key % s.young.length, none⟩ = some v := (BW.out.cell (p := ⟨g, h key % s.young.length, none⟩) hgl).trans hv1
        have HF := keep (fun (p : Nat) (x : Option Addr) (hp : c.reverse[p]? = some (key, x)) => sought_at (s := s) (key := key) (h := h) (t := 1) (T := s.young) (g := g) (cap := cb) (w := w') (r := r) (p := p) (x := x) (.inr ⟨rfl, rfl⟩) (by omega) H5.out c3 (by rw [hch]; exact hp))
        have HCH := keep hch
        clear hv1 hv2 hc hch
        generalize hix : h key % s.young.length = i at *
        have HIX := keep hix
        clear hix
        have hi0 : (0 : Int) ≤ (i : Int) := by omega
        have hi1 : (i : Int) < (s.young.length : Int) := by omega
        obtain ⟨wo, hwo⟩ : ∃ x, x = wr := ⟨_, rfl⟩
        subst hwo
        go_wp2_with fail
        refine mO.mono ?_
        rintro _ w' ⟨rfl, hw'⟩
        obtain rfl := hw'.symm
        go_wp2_with fail
        refine mF.mono ?_
        rintro _ w2 ⟨⟨q, rfl, hq⟩, hb2⟩
        have HB2 := keep hb2
        clear hb2 mO mF
        rcases hq with ⟨rfl, hno⟩ | ⟨p, x, rfl, hpl, hp⟩
        · have HNO := keep hno
          clear hno
          go_wp2
          go_roundw
          case measure => simp [intOf]
          case rel => exact ⟨2, by omega, rfl, BW.out.trans (HB2.out.mono BW.out.size), fun _ => N0.out (by omega), fun _ => by show ∀ x ∈ Dc.chain h s.young key, _; rw [HCH.out]; exact HNO.out⟩
        · have HP := keep hp
          clear hp
          have hp0 : (0 : Int) ≤ (p : Int) := by omega
          go_wp2
          refine bodyPost_ret (results_tmp3 rfl _ _ _) rfl ?_
          exact ⟨HF.out p x HP.out, BW.out.trans (HB2.out.mono BW.out.size)⟩
    · go_wp2
      refine bodyPost_ret (results_tmp3 rfl _ _ _) rfl ?_
      exact ⟨.inl ⟨rfl, N0.out (by omega), N1.out (by omega)⟩, BW.out⟩
end Go.Proofs.YtijclcedjgniaaaGreat.DP
