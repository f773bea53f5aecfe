/-
  Contracts over this program: the document's own Find at any name.
-/
import Derived.Test.YtaflggjgndkdlaaDoorVbRef3
import Derived.Deep.Cut
import Derived.Deep.CutRange
import Derived.Deep.RegionHeld
import Derived.Deep.RegionHeld3
import Derived.OrdersHeld
namespace Go.Proofs.YtaflggjgndkdlaaDoor
open Go.RowKit
set_option linter.unusedVariables false
theorem names_few : Vb.kinL.all (fun k => (Vb.pieces k.1).all fun u => decide (u.length ≤ 20)) = true := by decide +kernel
theorem find_few {u : List UInt8} (h : 20 < u.length) : Vb.find u = none := by
  unfold Vb.find
  refine Vb.findIn_none fun k hk hu => ?_
  have h1 := List.all_eq_true.1 names_few k hk
  have h2 := of_decide_eq_true (List.all_eq_true.1 h1 u hu)
  omega
theorem list_of (u : List UInt8) (U : ByteArray) : Vb.ofL u = U ↔ u = U.toList := by
  constructor
  · rintro rfl; rw [Vb.ofL_list]
  · rintro rfl; rw [ByteArray.toList_eq, Vb.ofL_of]
theorem first_in (U : ByteArray) : ∀ (ks : List (List UInt8 × Vb.Row)), ((ks.flatMap fun q => (Vb.pieces q.1).map fun u => (Vb.ofL u, q.2)).find? fun x => decide (x.1 = U)) = (Vb.findIn U.toList ks).map fun r => (U, r)
  | [] => rfl
  | k :: ks => by
    have hin : (((Vb.pieces k.1).map fun u => (Vb.ofL u, k.2)).find? fun x => decide (x.1 = U)) = if U.toList ∈ Vb.pieces k.1 then some (U, k.2) else none := by
      generalize Vb.pieces k.1 = L
      induction L with
      | nil => rfl
      | cons u L ih =>
        rw [List.map_cons, List.find?_cons]
        by_cases e : Vb.ofL u = U
        · have e2 := (list_of u U).1 e
          simp [e, ← e2]
        · have e2 : ¬ U.toList = u := fun h => e ((list_of u U).2 h.symm)
          simp only [e, decide_false]
          rw [ih]
          simp [e2]
    rw [List.flatMap_cons, List.find?_append, hin, first_in U ks]
    show _ = Option.map _ (if U.toList ∈ Vb.pieces k.1 then some k.2 else Vb.findIn U.toList ks)
    by_cases h : U.toList ∈ Vb.pieces k.1
    · rw [if_pos h, if_pos h]; rfl
    · rw [if_neg h, if_neg h]; rfl
theorem first_all (U : ByteArray) : ((rowsK 35).find? fun x => decide (x.1 = U)) = (Vb.find U.toList).map fun r => (U, r) := by
  unfold rowsK
  rw [List.take_of_length_le (by rw [Vb.kin_len]; exact Nat.le_refl _), first_in]
  rfl
theorem rows_len : (rowsK 35).length = 113 := by decide +kernel
theorem first_at {L : List (ByteArray × Vb.Row)} {U : ByteArray} {i : Nat} {r : Vb.Row} (h : L[i]? = some (U, r)) (hn : ∀ x ∈ L.take i, x.1 ≠ U) : (L.find? fun x => decide (x.1 = U)) = some (U, r) := by
  obtain ⟨h1, h2⟩ := List.getElem?_eq_some_iff.1 h
  have hsp : L = L.take i ++ (U, r) :: L.drop (i + 1) := by
    rw [← h2, ← List.drop_eq_getElem_cons h1, List.take_append_drop]
  rw [hsp, List.find?_append, List.find?_eq_none.2 (fun x hx => by simpa using hn x hx), List.find?_cons]
  simp
theorem rfind_out (b : Nat) (cs : Array Value) (c : Bool) (tmps : Array Value) (W : World) (h2 : tmps.getD 2 undef = .pointer (some ⟨b, 0, none⟩)) (h3 : tmps.getD 3 undef = .bool c)
    (f2 : W.heap[b]? = some (.cells cs 23 (0, 0))) (hs : cs.size = 6) : (results Tryd.f10 tmps).run Tryd.prog W = .ok (.tuple #[.agg cs, .bool c]) W := by
  have hld := run_loadVar_row (P := Tryd.prog) W b 23 23 cs (0, 0) _ f2 Tryd.underlying23 rfl (by rw [hs]; kernel_rfl)
  rw [results_cell_tmp rfl, h2, h3]
  simp [asAddr, Result.andThen, hld]
theorem cellU {w w' : World} {x : Addr} {u : Value} (hb : Below w.heap.size w w') (h : w.cell? x = some u) : w'.cell? x = some u := (hb.cell (World.block_lt_of_cell? _ _ h)).trans h
set_option maxRecDepth 100000 in
set_option maxHeartbeats 4000000 in
theorem rfind_any (s : ByteArray) (w : World) (hs : s.size ≤ 9223372036854775807) : Calls Tryd.prog 10 #[.string s] w fun e w' => FndE (Vb.up s) e ∧ Below w.heap.size w w' := by
  obtain ⟨PP, hPP⟩ : ∃ PP : Ending → World → Prop, PP = fun e w' => FndE (Vb.up s) e ∧ Below w.heap.size w w' := ⟨_, rfl⟩
  rw [← hPP]
  have HP := keep hPP
  clear hPP
  have mR := keep rows_any
  have mU := keep (fun w => rupper_any s w hs)
  obtain ⟨U, hU⟩ : ∃ U, U = Vb.up s := ⟨_, rfl⟩
  have HUS := keep (show U.size = s.size by rw [hU, Vb.up_size])
  rw [← hU] at HP mU
  clear hU
  have h20 := heap_alloc_new w (.cells zeroC 23)
  have b20 : Below w.heap.size w (w.alloc (.cells zeroC 23)) := (Below.refl _ w).alloc (Nat.le_refl _) _
  have K20 := keep h20
  have B20 := keep b20
  have six : ∀ W : World, W.heap[w.heap.size]? = some (.cells zeroC 23 (0, 0)) → (∀ j v, zeroC[j]? = some v → W.cell? ⟨w.heap.size, j, none⟩ = some v) ∧ ∀ j, W.frozen? ⟨w.heap.size, j, none⟩ = false := fun W h => ⟨fun j v hv => by rw [cell_of_row _ _ _ _ _ _ h, hv], fun j => frozen_of_row _ _ _ _ _ h⟩
  have SIX := keep six
  clear h20 b20 six hs
  by_cases hlen : 20 < s.size
  · have hl : (20 : Int) < (s.size : Int) := by omega
    go_enter Tryd.func10, Tryd.ntmps10
    go_wp2_with fail
    refine bodyPost_ret (rfind_out w.heap.size _ false _ _ rfl rfl K20.out rfl) rfl ?_
    rw [HP.out]
    refine ⟨?_, B20.out⟩
    unfold FndE findV
    rw [find_few (by rw [ByteArray.toList_eq, Vb.size_list, HUS.out]; exact hlen)]
    rfl
  · have hl : ¬ (20 : Int) < (s.size : Int) := by omega
    clear hlen
    go_enter Tryd.func10, Tryd.ntmps10
    go_wp2_with fail
    refine (mR.out _).mono ?_
    rintro _ w2 ⟨⟨v, rfl, hv⟩, hb⟩
    obtain ⟨L, hL⟩ : ∃ L, L = rowsK 35 := ⟨_, rfl⟩
    have HLL := keep (show L.length = 113 by rw [hL]; exact rows_len)
    have HFA := keep (first_all U)
    rw [← hL] at hv HFA
    obtain ⟨g, cap, rfl, hat, hgl⟩ : ∃ g cap, v = .slice (some ⟨g, 0, none⟩) 113 cap ∧ (∀ (i : Nat) (u : ByteArray) (r : Vb.Row), L[i]? = some (u, r) → ∀ (j : Nat) (x : Value), (rowL u r)[j]? = some x → w2.cell? ⟨g, i * 6 + j, none⟩ = some x) ∧ g < w2.heap.size := by
      have h2 := hv.2
      rcases h2 with ⟨_, hn⟩ | ⟨g, cap, cur, e, hbg, hg, _⟩
      · rw [HLL.out] at hn; cases hn
      · rw [HLL.out] at e
        refine ⟨g, cap, e, fun i u r hi j x hx => ?_, (Array.getElem?_eq_some_iff.1 hg).1⟩
        rw [e] at hv
        exact hv.at hi j x hx
    have hb2 : Below w.heap.size w w2 := B20.out.trans (hb.mono B20.out.size)
    have h22 : w2.heap[w.heap.size]? = some (.cells zeroC 23 (0, 0)) := (hb.block _ (Array.getElem?_eq_some_iff.1 K20.out).1).trans K20.out
    have HB2 := keep hb2
    have H22 := keep h22
    have HAT := keep hat
    have HGL := keep hgl
    clear hL hv hb hat hgl hb2 h22 K20 B20
    go_wp2_with fail
    go_loopw [5] (fun v5 wr => ∃ i : Nat, i ≤ 113 ∧ v5 = .int .i64 (i : Nat) ∧ Kept (Below w2.heap.size w2 wr) ∧ Kept (∀ x ∈ L.take i, x.1 ≠ U)) (fun v5 _ => 113 - (intOf v5).toNat)
    case atStart => exact ⟨0, Nat.zero_le _, rfl, Below.refl _ _, by intro x hx; simp at hx⟩
    case round =>
      obtain ⟨i, hi, rfl, KB, KN⟩ := hrel
      have hbk : Kept (wr.heap[w.heap.size]? = some (.cells zeroC 23 (0, 0))) := (KB.out.block _ (Array.getElem?_eq_some_iff.1 H22.out).1).trans H22.out
      by_cases hlt : i < 113
      · have hz : (i : Int) < 113 := by omega
        have hz0 : (0 : Int) ≤ (i : Int) := by omega
        have hwi : IntKind.i64.wrap ((i : Int) + 1) = ((i + 1 : Nat) : Int) := by rw [IntKind.wrap_i64]; omega
        obtain ⟨⟨n, ra, rf, rx, ry, rz⟩, hn⟩ : ∃ x, L[i]? = some x := ⟨_, List.getElem?_eq_getElem (by rw [HLL.out]; exact hlt)⟩
        have hc : ∀ j x, (rowL n (ra, rf, rx, ry, rz))[j]? = some x → wr.cell? ⟨g, i * 6 + j, none⟩ = some x := fun j x hx => (KB.out.cell (w := w2) HGL.out).trans (HAT.out i n _ hn j x hx)
        have HN := keep hn
        have s0 : Kept (wr.drew.cell? ⟨g, i * 6, none⟩ = some (.string n)) := hc 0 _ rfl
        have HC := keep hc
        clear hn hc
        have hq : (∃ b : Bool, (n.toList == U.toList) = b) := ⟨_, rfl⟩
        obtain ⟨b, hq⟩ := hq
        have hzn : i < 113 := hlt
        have hbd : Kept (Below w2.heap.size w2 wr.drew) := KB.out.drew
        have HK20 : Kept (wr.drew.heap[w.heap.size]? = some (.cells zeroC 23 (0, 0))) := hbk.out
        go_upto_region 7 with fail
        refine wp_region_held_drew (S := fun W => W.cell? ⟨g, i * 6, none⟩ = some (.string n)) (by kernel_rfl) s0.out (fun hHeld => ?_)
        refine wpAnyH_take (i := 0) (oi := { dst := some 17, op := _, type := _, pos := _, after := _, guard := _ }) (v := ?v1) rfl (by kernel_rfl) (by kernel_rfl) (by kernel_rfl) (fun _ _ _ h => h) (Or.inl ⟨by rfl, ?hy1⟩) (by assumption) ?rest1
        case hy1 => (intro w hSw; obtain s0 := hSw; go_simp; try with_reducible rfl)
        try simp only [Act.put, List.setIfInBounds_toArray, List.set_cons_zero, List.set_cons_succ]
        refine wpAnyH_take (i := 1) (oi := { dst := some 18, op := _, type := _, pos := _, after := _, guard := _ }) (v := ?v2) rfl (by kernel_rfl) (by kernel_rfl) (by kernel_rfl) (fun _ _ _ h => h) (Or.inl ⟨by rfl, ?hy2⟩) (by assumption) ?rest2
        case hy2 => (intro w hSw; obtain s0 := hSw; go_simp; try with_reducible rfl)
        try simp only [Act.put, List.setIfInBounds_toArray, List.set_cons_zero, List.set_cons_succ]
        refine wpAnyH_take (i := 2) (oi := { dst := some 19, op := _, type := _, pos := _, after := _, guard := _ }) (v := (.pointer (some ⟨g, i * 6, none⟩))) rfl (by kernel_rfl) (by kernel_rfl) (by kernel_rfl) (fun _ _ _ h => h) (Or.inl ⟨by rfl, ?hy3⟩) (by assumption) ?rest3
        case hy3 => (intro w hSw; obtain s0 := hSw; first | (go_simp; done) | (go_simp; simp [*]; done) | (simp [*]; go_simp; done))
        try simp only [Act.put, List.setIfInBounds_toArray, List.set_cons_zero, List.set_cons_succ]
        refine wpAnyH_take (i := 3) (oi := { dst := some 20, op := _, type := _, pos := _, after := _, guard := _ }) (v := (.pointer (some ⟨g, i * 6, none⟩))) rfl (by kernel_rfl) (by kernel_rfl) (by kernel_rfl) (fun _ _ _ h => h) (Or.inl ⟨by rfl, ?hy4⟩) (by assumption) ?rest4
        case hy4 => (intro w hSw; obtain s0 := hSw; first | (go_simp; done) | (go_simp; simp [*]; done) | (simp [*]; go_simp; done))
        try simp only [Act.put, List.setIfInBounds_toArray, List.set_cons_zero, List.set_cons_succ]
        refine wpAnyH_take (i := 4) (oi := { dst := some 21, op := _, type := _, pos := _, after := _, guard := _ }) (v := (.string n)) rfl (by kernel_rfl) (by kernel_rfl) (by kernel_rfl) (fun _ _ _ h => h) (Or.inl ⟨by rfl, ?hy5⟩) (by assumption) ?rest5
        case hy5 => (intro w hSw; obtain s0 := hSw; first | (go_simp; done) | (go_simp; simp [*]; done) | (simp [*]; go_simp; done))
        try simp only [Act.put, List.setIfInBounds_toArray, List.set_cons_zero, List.set_cons_succ]
        refine wpAnyH_take (i := 5) (oi := { dst := some 22, op := _, type := _, pos := _, after := _, guard := _ }) (v := ?v6) rfl (by kernel_rfl) (by kernel_rfl) (by kernel_rfl) (fun _ _ _ h => h) (Or.inl ⟨by rfl, ?hy6⟩) (by assumption) ?rest6
        case hy6 => (intro w hSw; obtain s0 := hSw; go_simp; try with_reducible rfl)
        try simp only [Act.put, List.setIfInBounds_toArray, List.set_cons_zero, List.set_cons_succ]
        refine wpAnyH_ready (rs := [6]) (by kernel_rfl) (by simp) ?_
        refine AllReadyH.cons (o := { dst := some 23, op := _, type := _, pos := _, after := _, guard := _ }) rfl (fun K hK => ?_) AllReadyH.nil
        go_simp
        refine (mU.out _).mono ?_
        rintro _ x1 ⟨rfl, y1⟩
        have z1 : Kept (Below w2.heap.size w2 x1) := hbd.out.trans (y1.mono hbd.out.size)
        have k1 : Kept (x1.heap[w.heap.size]? = some (.cells zeroC 23 (0, 0))) := (y1.block _ (Array.getElem?_eq_some_iff.1 HK20.out).1).trans HK20.out
        have hcx : Kept (∀ j x, (rowL n (ra, rf, rx, ry, rz))[j]? = some x → x1.cell? ⟨g, i * 6 + j, none⟩ = some x) := fun j x hx => cellU y1 (HC.out j x hx)
        refine hK.out _ _ (cellU y1 hHeld) (fun hHeld => ?_)
        try simp only [Act.put, List.setIfInBounds_toArray, List.set_cons_zero, List.set_cons_succ]
        clear hK y1
        refine wpAnyH_take (i := 7) (oi := { dst := some 24, op := _, type := _, pos := _, after := _, guard := _ }) (v := (.bool b)) rfl (by kernel_rfl) (by kernel_rfl) (by kernel_rfl) (fun _ _ _ h => h) (Or.inl ⟨by rfl, ?hy7⟩) (by assumption) ?rest7
        case hy7 => (intro w hSw; first | (go_simp; done) | (go_simp; simp [*]; done) | (simp [*]; go_simp; done))
        try simp only [Act.put, List.setIfInBounds_toArray, List.set_cons_zero, List.set_cons_succ]
        refine wpAnyH_done (by kernel_rfl) ?_ _
        clear hHeld
        cases b with
        | false =>
          have HQ := keep hq
          clear hq
          go_wp2_with fail
          go_roundw
          case measure => simp [intOf]; omega
          case rel =>
            refine ⟨i + 1, hlt, by rfl, z1, fun x hx => ?_⟩
            rw [List.take_add_one, HN.out] at hx
            rcases List.mem_append.1 hx with hx | hx
            · exact KN.out x hx
            · simp only [Option.toList_some, List.mem_singleton] at hx
              subst hx
              intro e
              have e : n = U := e
              have := HQ.out
              rw [e] at this
              simp at this
        | true =>
          have hnu : n = U := by
            have : n.toList = U.toList := by simpa using hq
            rw [ByteArray.toList_eq, ByteArray.toList_eq] at this
            exact ByteArray.ext (Array.toList_inj.1 this)
          subst hnu
          obtain ⟨c, f⟩ := SIX.out _ k1.out
          have c0 := c 0 _ rfl
          have c1 := c 1 _ rfl
          have c2 := c 2 _ rfl
          have c3 := c 3 _ rfl
          have c4 := c 4 _ rfl
          have c5 := c 5 _ rfl
          have f0 := f 0
          have f1 := f 1
          have f2 := f 2
          have f3 := f 3
          have f4 := f 4
          have f5 := f 5
          have d0 : x1.cell? ⟨g, i * 6, none⟩ = _ := hcx.out 0 _ rfl
          have d1 := hcx.out 1 _ rfl
          have d2 := hcx.out 2 _ rfl
          have d3 := hcx.out 3 _ rfl
          have d4 := hcx.out 4 _ rfl
          have d5 := hcx.out 5 _ rfl
          have HR := keep (first_at HN.out KN.out)
          clear c f hq
          go_wp2_with fail
          refine bodyPost_ret (rfind_out w.heap.size _ true _ _ rfl rfl (six_set _ _ _ _ _ _ _ _ k1.out) rfl) rfl ?_
          rw [HP.out]
          refine ⟨?_, six_below (HB2.out.trans (z1.out.mono HB2.out.size)) _ (Nat.le_refl _) _ _ _ _ _ _⟩
          have hf := HFA.out
          rw [HR.out] at hf
          unfold FndE findV
          cases hfd : Vb.find n.toList with
          | none => rw [hfd] at hf; cases hf
          | some r => rw [hfd] at hf; cases hf; rfl
      · obtain rfl : i = 113 := by omega
        have hz : ¬ ((113 : Nat) : Int) < 113 := by omega
        obtain ⟨c, f⟩ := SIX.out _ hbk.out
        have c0 := c 0 _ rfl
        have c1 := c 1 _ rfl
        have c2 := c 2 _ rfl
        have c3 := c 3 _ rfl
        have c4 := c 4 _ rfl
        have c5 := c 5 _ rfl
        have f0 := f 0
        have f1 := f 1
        have f2 := f 2
        have f3 := f 3
        have f4 := f 4
        have f5 := f 5
        clear c f
        go_wp2_with fail
        refine bodyPost_ret (rfind_out w.heap.size _ false _ _ rfl rfl (six_set _ _ _ _ _ _ _ _ hbk.out) rfl) rfl ?_
        rw [HP.out]
        refine ⟨?_, six_below (HB2.out.trans (KB.out.mono HB2.out.size)) _ (Nat.le_refl _) _ _ _ _ _ _⟩
        have hf := HFA.out
        rw [List.find?_eq_none.2 (fun x hx => by simpa using KN.out x (by rw [List.take_of_length_le (by rw [HLL.out]; exact Nat.le_refl _)]; exact hx))] at hf
        unfold FndE findV
        rw [Option.map_eq_none_iff.1 hf.symm]
        rfl
end Go.Proofs.YtaflggjgndkdlaaDoor
