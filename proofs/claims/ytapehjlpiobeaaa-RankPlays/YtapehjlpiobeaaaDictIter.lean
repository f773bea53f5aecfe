/-
  Contracts over this program: a chain is gone through from its head on (slices.Backward).
-/
import Derived.Test.YtapehjlpiobeaaaDictStep0
import Derived.RangeFuncNested
import Derived.RangeFuncBound
import Derived.RangeFuncCalls
import Derived.RangeFuncLeaves
import Derived.Shelf.RegionOpen
import Derived.WalkKit
import Derived.OwnWalkIn
import Derived.TacticsInMore
import Derived.LoopNIn
import Derived.LoopIn
namespace Go.Proofs.Ytapehjlpiobeaaa
open Go.RowKit Go.Shelf
attribute [local go_sem] Oper.semAt_some
/-- what is handed over: a place and the entry that stands there -/
abbrev Bk (c : List Ent) : Type := { x : Nat × Ent // x.2 ∈ c }
def bkE {c : List Ent} (x : Bk c) : Array Value := #[.int .i64 (x.1.1 : Int), .agg #[.string x.1.2.1, .float .f64 x.1.2.2]]
def bks {c : List Ent} (l : List (Bk c)) : List Ent := l.map (fun x => x.1.2)
theorem bks_snoc {c : List Ent} {l : List (Bk c)} {x : Bk c} {m : Nat} {e : Ent} (h : x.1 = (m, e)) : bks (l ++ [x]) = bks l ++ [e] := by
  unfold bks
  rw [List.map_append, List.map_singleton, h]
/-- the blocks that it reads are kept -/
def KpB (Bs : Nat) (v : Value) (A B : World) : Prop := B.heap[Bs]? = A.heap[Bs]? ∧ ∀ k, v.ownBlock = some k → B.heap[k]? = A.heap[k]?
theorem KpB.refl (Bs : Nat) (v : Value) (A : World) : KpB Bs v A A := ⟨rfl, fun _ _ => rfl⟩
theorem KpB.trans {Bs : Nat} {v : Value} {A B C : World} (h : KpB Bs v A B) (g : KpB Bs v B C) : KpB Bs v A C := ⟨g.1.trans h.1, fun k e => (g.2 k e).trans (h.2 k e)⟩
theorem rev_take {c : List Ent} {m : Nat} {e : Ent} (h : c.reverse[m]? = some e) : c.take (c.length - 1 - m + 1) = c.take (c.length - 1 - m) ++ [e] := by
  have hl : m < c.length := by have := (List.getElem?_eq_some_iff.1 h).1; simpa using this
  rw [List.getElem?_reverse hl] at h
  rw [List.take_succ_eq_append_getElem (by omega)]
  rw [List.getElem?_eq_getElem (by omega)] at h
  rw [Option.some.inj h]
set_option maxRecDepth 100000 in
set_option maxHeartbeats 2000000 in
theorem back1_in (n : Nat) (l Bs : Nat) (v : Value) (c : List Ent) (J Jx : List (Bk c) → World → Prop)
    (hY : ∀ pre x W1, J pre W1 → pre.length < c.length → YieldAt Fence.wide (n - 1) Try.prog l (bkE x) W1 fun e W' => (e = .returned (.bool true) ∧ J (pre ++ [x]) W' ∧ KpB Bs v W1 W') ∨ (e = .returned (.bool false) ∧ Jx (pre ++ [x]) W'))
    (W : World) (hBs : W.cell? ⟨Bs, 0, none⟩ = some v) (hC : Chn W v c) (h0 : J [] W) :
    CallsIn Fence.wide n Try.prog 84 #[.func (.yield l) #[] #[], .pointer (some ⟨Bs, 0, none⟩)] W fun e W' => (∃ v, e = .returned v) ∧ ((∃ xs, bks xs = c ∧ J xs W') ∨ (∃ pre, bks pre <+: c ∧ Jx pre W')) := by
  obtain ⟨co, cc, rfl⟩ := chn_len hC
  have hlen : c.length ≤ 9223372036854775807 := by
    rcases hC.form with ⟨_, rfl⟩ | ⟨g, cap, _, _, h1, h2⟩
    · simp
    · unfold maxLen at h2; omega
  have HC := keep hC
  have HY := keep hY
  have HB := keep hBs
  clear hC hY
  obtain ⟨L, hL⟩ : ∃ L, c.length = L := ⟨_, rfl⟩
  rw [hL] at hBs hlen
  have HL := keep hL
  have hw0 : IntKind.i64.wrap ((L : Int) - 1) = (L : Int) - 1 := by rw [IntKind.wrap_i64]; omega
  refine callsIn_of_wp Try.func84 rfl trivial ?_ rfl
  simp only [Try.ntmps84, List.size_toArray, List.length_cons, List.length_nil, Nat.reduceAdd, Nat.reduceSub, Array.replicate_succ, Array.replicate_zero, List.push_toArray, List.append_toArray, List.nil_append, List.cons_append]
  gi_wp2
  clear hw0 hBs
  gi_loopw [3] (fun i wr => ∃ (m : Nat) (pre : List (Bk c)), m ≤ L ∧ i = .int .i64 ((m : Int) - 1) ∧ Kept (bks pre = c.take (L - m)) ∧ Kept (J pre wr) ∧ Kept (KpB Bs (.slice co c.length cc) W wr)) (fun i _ => (intOf i + 1).toNat)
  case atStart => exact ⟨L, [], Nat.le_refl _, rfl, by show _ = _; rw [Nat.sub_self]; rfl, h0, KpB.refl _ _ _⟩
  case round =>
    obtain ⟨m, pre, hm, rfl, KT, KJ, KK⟩ := hrel
    have hBs : wr.cell? ⟨Bs, 0, none⟩ = some (.slice co L cc) := by rw [World.cell?_of_block (w := W) (a := ⟨Bs, 0, none⟩) KK.out.1, HB.out, HL.out]
    cases m with
    | zero =>
      clear hBs
      gi_wp2
      go_end0
      refine ⟨⟨_, rfl⟩, .inl ⟨pre, ?_, KJ.out⟩⟩
      rw [KT.out, Nat.sub_zero, ← HL.out, List.take_length]
    | succ m =>
      have em : ((m + 1 : Nat) : Int) - 1 = (m : Int) := by omega
      rw [em]
      obtain ⟨e, he⟩ := rev_some (c := c) (k := m) (by rw [HL.out]; omega)
      have HE := keep he
      have hmem : e ∈ c := List.mem_reverse.1 (List.mem_of_getElem? he)
      have hCw : Chn wr (.slice co c.length cc) c := own_kept HC.out (fun k hk => KK.out.2 k hk)
      rcases hCw.form with ⟨hh, hcn⟩ | ⟨g, cap, hh, hg, _, _⟩
      · rw [hcn] at hmem; cases hmem
      · cases hh
        obtain ⟨l1, l2⟩ := hCw.at he
        clear hCw he
        have hpl : pre.length = L - (m + 1) := by
          have := congrArg List.length KT.out
          simp only [bks, List.length_map, List.length_take] at this
          rw [this, HL.out]; omega
        obtain ⟨x, hx⟩ : ∃ x : Bk c, x.1 = (m, e) := ⟨⟨(m, e), hmem⟩, rfl⟩
        obtain ⟨fn, tmps, assign, body, hy, hR⟩ := HY.out pre x wr KJ.out (by rw [hpl, HL.out]; omega)
        obtain ⟨e1, e2⟩ := e
        unfold bkE at hy
        rw [hx] at hy
        dsimp only at hy l1 l2
        have HX := keep hx
        have hm0 : (0 : Int) ≤ (m : Int) := by omega
        have hm1 : (m : Int) < (L : Int) := by omega
        have hmw : IntKind.i64.wrap ((m : Int) - 1) = (m : Int) - 1 := by rw [IntKind.wrap_i64]; omega
        clear hmem hpl em hx
        gi_wp2
        refine ⟨(fun h => by cases h), hR.mono ?_⟩
        rintro e W3 (⟨rfl, hJ3, hk3⟩ | ⟨rfl, hJx3⟩)
        · have K3 := keep hJ3
          have K4 := keep hk3
          clear hJ3 hk3
          gi_wp2
          go_roundw
          case rel =>
            refine ⟨m, pre ++ [x], by omega, rfl, ?_, K3, KK.out.trans K4.out⟩
            show bks _ = _
            rw [bks_snoc HX.out, KT.out]
            have := rev_take HE.out
            rw [HL.out] at this
            rw [show L - m = L - 1 - m + 1 by omega, this, show L - (m + 1) = L - 1 - m by omega]
          case measure => simp [intOf]
        · gi_wp2
          refine bodyPost_ret (results_none rfl _ _ _) rfl ?_
          refine ⟨⟨_, rfl⟩, .inr ⟨_, ?_, hJx3⟩⟩
          rw [bks_snoc HX.out, KT.out]
          have := rev_take HE.out
          rw [HL.out] at this
          rw [show L - (m + 1) = L - 1 - m by omega, ← this]
          exact List.take_prefix _ _
set_option maxHeartbeats 400000 in
theorem back_any (w : World) (ao : Option Addr) (n cap : Nat) :
    Calls Try.prog 78 #[.slice ao n cap] w fun e w' => e = .returned (.func (.func 84) #[] #[.pointer (some ⟨w.heap.size, 0, none⟩)]) ∧ w' = w.alloc (.cells #[.slice ao n cap] 93) := by
  have hmf : ∀ (fn : Fn) (first cap : Array Value) (w : World), (Instr.makeFunc fn first cap).run Try.prog w = .ok (.func fn first cap) w := fun _ _ _ _ => rfl
  go_enter Try.func78, Try.ntmps78
  go_wp2
  go_ret
  exact ⟨rfl, rfl⟩
/-- what slices.Backward hands back tells the chain's entries from its head on, whatever the loop's body does with other blocks -/
theorem back_stops (n : Nat) (Bs : Nat) (v : Value) (c : List Ent) (w : World) (hB : Bs < w.heap.size) (hc : w.cell? ⟨Bs, 0, none⟩ = some v) (hC : Chn w v c) :
    SeqStopsK Fence.wide n Try.prog 84 #[.pointer (some ⟨Bs, 0, none⟩)] (bkE (c := c)) (KpB Bs v) (fun xs => bks xs = c) (fun pre => bks pre <+: c) c.length w := fun l J Jx W hW _ _ hY h0 =>
  back1_in n l Bs v c J Jx hY W ((hW.cell (p := ⟨Bs, 0, none⟩) hB).trans hc) (own_kept hC (fun k hk => hW.block k (own_lt hC hk))) h0
theorem kpB_b {Bs : Nat} {v : Value} {w : World} (hB : Bs < w.heap.size) (hv : ∀ k, v.ownBlock = some k → k < w.heap.size) (W : World) (l : Nat) (o o' : Obj) (hl : w.heap.size ≤ l) (_ : W.heap[l]? = some o) (_ : o.isCells = false) (_ : o.isWalk = false) : KpB Bs v W (W.putObj l o') :=
  ⟨World.putObj_heap_other (by omega), fun k hk => World.putObj_heap_other (by have := hv k hk; omega)⟩
/- a region that draws its order, within a round -/
theorem upon_round {P : Program} {o : Oper} {a : Act} {l n : Nat} {next : Act → World → Prop} {Q : Exit → Act → World → Prop} {x : Result Next} (h : o.upon P a next Q x) : o.uponIn (Fence.wide.inRound l) n P a next Q x := by
  cases x with
  | ok y w' =>
    cases y <;> simp only [Oper.upon, Oper.uponIn] at h ⊢
    case value => exact h
    case skip => exact h
    case defer => exact h
    case enter f args => exact ⟨(fun h => by cases h), CallsIn.inRound l (callsIn_wide.2 h)⟩
    case row row args => exact ⟨(fun h => by cases h), fun c cs _ => let ⟨v, w', r, s⟩ := h c cs; ⟨v, w', r, stepsIn_wide.2 s⟩⟩
  | halt y w' => cases y <;> simp only [Oper.upon, Oper.uponIn] at h ⊢ <;> exact h
def noDefer (ops : Array Oper) : Bool := ops.toList.all fun o => match o.op with | .defer _ => false | _ => true
theorem noDefer_spec {ops : Array Oper} (h : noDefer ops = true) {i : Nat} {o : Oper} (ho : ops[i]? = some o) : ∀ c, o.op ≠ .defer c := by
  intro c hc
  have := List.all_eq_true.1 h o (by have := Array.mem_of_getElem? ho; simpa using this)
  rw [hc] at this
  cases this
theorem any_round {P : Program} {md : Region.Mode} {ops : Array Oper} {l n : Nat} {Q : Exit → Act → World → Prop} (hd : noDefer ops = true) (hL : ¬ LetsOut Q) : ∀ (fuel : Nat) (listed : Array Bool) (a : Act) (w : World), wpAny P md ops Q fuel listed a w → wpAnyIn (Fence.wide.inRound l) n P md ops Q fuel listed a w := by
  intro fuel
  induction fuel with
  | zero => intro listed a w h; exact h
  | succ fuel ih =>
    intro listed a w h
    refine ⟨h.1, fun i hi => ?_⟩
    have h1 := h.2 i hi
    unfold wpOp at h1
    unfold wpOpIn
    cases ho : ops[i]? with
    | none => simp only [ho] at h1 ⊢; exact ih _ _ _ h1
    | some o =>
      simp only [ho] at h1 ⊢
      split
      · rename_i hw
        simp only [hw, if_true] at h1
        rcases h1 with h1 | ⟨_, h2⟩
        · refine ⟨fun _ _ => trivial, ?_⟩
          have e : o.semAt (Fence.wide.inRound l).round a.eval = execOp a.eval o := Oper.semAt_eq _ _ _ (noDefer_spec hd ho)
          rw [e]
          exact upon_round (Oper.wp_mono (fun a w => ih _ a w) h1)
        · exact absurd h2 hL
      · rename_i hw
        simp only [hw] at h1
        exact ⟨fun _ _ => trivial, ih _ _ _ h1⟩
/-- such a region within a round goes as everywhere -/
theorem region_round {P : Program} {id : Nat} {ops : Array Oper} {l n : Nat} {Q : Exit → Act → World → Prop} {a : Act} {w : World} {S : World → Prop} (hm : P.follows .mixedOrders = true) (hd : noDefer ops = true) (hL : ¬ LetsOut Q) (hS : S w.drew)
    (h : S w.drew → wpAnyH P .any ops Q S ops.size (Array.replicate ops.size false) a w.drew) : (Code.region id ops true).wpIn (Fence.wide.inRound l) n P Q a w :=
  wpIn_region_any hm (any_round hd hL _ _ _ _ (wpAny_of_held _ _ _ _ (h hS)))
end Go.Proofs.Ytapehjlpiobeaaa
