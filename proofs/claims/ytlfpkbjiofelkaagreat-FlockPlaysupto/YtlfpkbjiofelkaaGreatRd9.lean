/-
  Contracts over this program: Delete of the document's own dict.
-/
import Derived.Test.YtlfpkbjiofelkaaGreatRd8
namespace Go.Proofs.YtlfpkbjiofelkaaGreat
open Go.RowKit Go.Shelf
set_option linter.unusedVariables false
set_option linter.unusedSimpArgs false
set_option maxRecDepth 100000
namespace Rd
variable {V : Type}
theorem del_is {h : ByteArray → Nat} {T : Dc.Tab ByteArray V} {key : ByteArray} {dd : List (ByteArray × V)} (hp : Dc.Put h T) (hc : T[h key % T.length]? = some dd) : T.set (h key % T.length) (Dc.without key dd) = T.map (Dc.without key) := by
  have h1 := Dc.modify_map hp key (Dc.without key) (fun c hc => by unfold Dc.without; exact List.filter_eq_self.2 (fun e he => by simp; exact hc e he))
  rw [List.modify_eq_set, hc] at h1
  exact h1
theorem shrink_stay {n : Nat} {s : Dc.St ByteArray V} (h : ¬ (s.young = [] ∧ 4 < s.old.length ∧ 8 * n ≤ s.old.length)) : Dc.shrink n s = s := by
  unfold Dc.shrink
  rw [if_neg (by rw [Bool.and_eq_true, Bool.and_eq_true, Dc.empty_iff, decide_eq_true_iff, decide_eq_true_iff]; exact h)]
theorem shrink_go {n : Nat} {s : Dc.St ByteArray V} (h : s.young = [] ∧ 4 < s.old.length ∧ 8 * n ≤ s.old.length) : Dc.shrink n s = { s with young := List.replicate (Dc.fit n) [], pos := 0 } := by
  unfold Dc.shrink
  rw [if_pos (by rw [Bool.and_eq_true, Bool.and_eq_true, Dc.empty_iff, decide_eq_true_iff, decide_eq_true_iff]; exact h)]
set_option maxHeartbeats 8000000 in
theorem delete_any {h : ByteArray → Nat} {seed N : Nat} (hH : RHashIs seed h) (w : World) (r : Roles) (b : Nat) (s : Dc.St ByteArray V) (KV : List (ByteArray × Int)) (key : ByteArray) (hd : Rdd h N w r b seed s KV) (hN : N ≤ 2600000000000) (hk : key.size ≤ maxLen) :
    Calls Tryz.prog 53 #[.pointer (some ⟨b, 0, none⟩), .string key] w fun e w' => e = .returned (.bool (Dc.look key KV).isSome) ∧ ∃ r', Rdd h N w' r' b seed (Dc.delete h s key).1 (Dc.without key KV) ∧ Fr w r w' r' := by
  have MS := keep (hd.step hH (by omega))
  have HNd := keep hd.2.2.1
  have HNb := keep hN
  have HKy := keep hk
  have HLn : Kept (KV.length ≤ N) := hd.few
  have HEnd : Kept (∀ w' r', RD w' r' b seed (Dc.delete h s key).1 (Dc.without key KV) → Fr w r w' r' → ∃ r', Rdd h N w' r' b seed (Dc.delete h s key).1 (Dc.without key KV) ∧ Fr w r w' r') := fun w' r' h1 h2 => ⟨r', ⟨h1, okd_delete hd.2.1 key, kvok_del hd.2.2 hd.2.1.1 key⟩, h2⟩
  clear hd hN hk
  go_enter Tryz.func53, Tryz.ntmps53
  go_wp2_with fail
  refine MS.out.mono ?_
  rintro _ w1 ⟨rfl, r1, hd1, hf1⟩
  obtain ⟨s1, hs1⟩ : ∃ s1, Dc.step h s = s1 := ⟨_, rfl⟩
  rw [hs1] at hd1
  have HS1 := keep hs1
  have MI := keep (index_any key hd1.1 (by have := HLn.out; have := HNb.out; omega))
  have HD := keep hd1
  have HF := keep hf1
  clear MS hd1 hf1 hs1
  go_wp2_with fail
  refine MI.out.mono ?_
  rintro _ w2 ⟨⟨a, rfl, ha⟩, hw⟩
  obtain rfl := hw.symm
  clear MI
  have hlk := HD.out.2.2.look key
  rcases ha with ⟨rfl, hne⟩ | ⟨p, x, rfl, hp⟩
  · have hl := look_noK hne
    rw [hl] at hlk
    have hl1 : Dc.look key (Dc.all s1) = none := by cases h' : Dc.look key (Dc.all s1) with | none => rfl | some y => rw [h'] at hlk; cases hlk
    have HL := keep hl
    have HX : Kept (∃ r', Rdd h N w1 r' b seed (Dc.delete h s key).1 (Dc.without key KV) ∧ Fr w r w1 r') := HEnd.out w1 r1 (by
      rw [del_none (by rw [HS1.out]; exact hl1), HS1.out, without_none hne]
      exact HD.out.1) HF.out
    clear hl hlk hl1 hne
    go_wp2
    go_ret
    exact ⟨by rw [HL.out]; rfl, HX.out⟩
  · obtain ⟨n, hln⟩ : ∃ n, KV.length = n := ⟨_, rfl⟩
    have HN := keep hln
    have hnN : n ≤ N := by rw [← hln]; exact HLn.out
    have hpl := (List.getElem?_eq_some_iff.1 hp).1
    have hl := look_atK HNd.out hp
    rw [hl] at hlk
    have hy1 : ∃ y, Dc.look key (Dc.all s1) = some y := by cases h' : Dc.look key (Dc.all s1) with | none => rw [h'] at hlk; cases hlk | some y => exact ⟨y, rfl⟩
    have HL := keep hl
    have HY1 := keep hy1
    have HI := keep HD.out.2.1.1
    have HP : Kept (p < n ∧ n ≤ N ∧ KV[p]? = some (key, x)) := ⟨by omega, hnN, hp⟩
    have HNa : Kept ((Dc.all s1).length = n) := by show (Dc.all s1).length = n; rw [← HD.out.2.2.2.2]; exact hln
    have HFL : Kept (s1.old.flatten.length + s1.young.flatten.length ≤ N) := by
      have e := Dc.all_eq HI.out
      have e2 := HNa.out
      rw [e, List.length_append] at e2
      show _ ≤ N
      omega
    have HER : Kept (KV.eraseIdx p = Dc.without key KV) := erase_at HNd.out hp
    have HLE : Kept ((KV.eraseIdx p).length = n - 1) := by show _ = n - 1; rw [List.length_eraseIdx, if_pos (by omega), hln]
    have HSET : Kept ((Dc.delete h s key).1 = Dc.shrink (n - 1) (Dc.every (Dc.without key) s1)) := by
      obtain ⟨y, hy⟩ := hy1
      show _ = _
      rw [del_some (y := y) (by rw [HS1.out]; exact hy), HS1.out, HNa.out]
    obtain ⟨ao, ca, bo, cb, ko, kc, vo, vc, h3, h4, h5, h6, h7⟩ := HD.out.1.parts
    obtain ⟨c0, c1, c2, c3, c4, c5, cf⟩ := six h3
    rw [hln] at c4 c5 h6 h7
    obtain ⟨gk, hgk⟩ : ∃ g, ko = some ⟨g, 0, none⟩ := by
      rcases h6.2 with ⟨e, h0⟩ | ⟨g, cap, cur, e, _⟩
      · rw [show (Dc.keys KV).length = KV.length by simp [Dc.keys]] at h0; omega
      · injection e with e1; exact ⟨g, e1⟩
    subst hgk
    obtain ⟨gv, hgv⟩ : ∃ g, vo = some ⟨g, 0, none⟩ := by
      rcases h7.2 with ⟨e, h0⟩ | ⟨g, cap, cur, e, _⟩
      · rw [List.length_map] at h0; omega
      · injection e with e1; exact ⟨g, e1⟩
    subst hgv
    have HCK : Kept (∀ wz, Below w1.heap.size w1 wz → wz.cell? ⟨b, 4, none⟩ = some (.slice (some ⟨gk, 0, none⟩) n kc) ∧ wz.cell? ⟨b, 5, none⟩ = some (.slice (some ⟨gv, 0, none⟩) n vc) ∧ ∀ i y, KV[i]? = some y → wz.cell? ⟨gk, i, none⟩ = some (.string y.1) ∧ wz.cell? ⟨gv, i, none⟩ = some (.int .i64 y.2)) := fun wz hb => by
      have nu : ∀ {a : Addr} {u : Value}, w1.cell? a = some u → wz.cell? a = some u := fun {a u} h => (hb.cell (p := a) (World.block_lt_of_cell? _ _ h)).trans h
      exact ⟨nu c4, nu c5, fun i y hy => ⟨nu (h6.at (by unfold Dc.keys; rw [List.getElem?_map, hy]; rfl)), nu (h7.at (by rw [List.getElem?_map, hy]; rfl))⟩⟩
    have hge : ¬ (p : Int) < 0 := by omega
    have hge' : decide ((p : Int) < 0) = false := decide_eq_false hge
    obtain ⟨n0, hn0⟩ : ∃ n, s1.old.length = n := ⟨_, rfl⟩
    obtain ⟨n1, hn1⟩ : ∃ n, s1.young.length = n := ⟨_, rfl⟩
    have HB0 : Kept (n0 ≤ 2 * N + 4 ∧ n1 ≤ 2 * N + 4) := by rw [← hn0, ← hn1]; exact HD.out.2.1.2.2.2
    have HM0 : Kept (s1.old.length = n0 ∧ 0 < n0 ∧ n0 ≤ maxLen) := by
      refine ⟨hn0, ?_, by have := HB0.out; have := HNb.out; unfold maxLen; omega⟩
      rw [← hn0]
      refine List.length_pos_iff.2 (fun e => ?_)
      have hy : s1.young = [] := Classical.byContradiction fun hh => by have := HI.out.move hh; rw [e] at this; simp at this
      have := HNa.out
      simp [Dc.all, e, hy] at this
      omega
    clear c0 c1 c2 c3 c5 cf h3 h4 h5 h6 h7 hp hpl hl hlk hy1 hln hnN hn0
    go_wp2
    go_loopg [6, 7, 25] n (fun kx s6 s7 s25 wr => ∃ i : Nat, s25 = .int .i64 i ∧ i ≤ n ∧ n - i ≤ kx ∧ ∃ ko kn kc vo vn vc, s6 = .slice ko kn kc ∧ s7 = .slice vo vn vc ∧ Kept (KM w1 wr (.slice ko kn kc) (.slice vo vn vc) (Dc.keys ((KV.take i).eraseIdx p)) (((KV.take i).eraseIdx p).map Prod.snd)))
    case atStart => exact ⟨0, rfl, by omega, by omega, none, 0, 0, none, 0, 0, rfl, rfl, ⟨rfl, .inl ⟨rfl, rfl⟩⟩, ⟨rfl, .inl ⟨rfl, rfl⟩⟩, fun k e => (by cases e), fun k e => (by cases e), Below.refl _ _⟩
    case round =>
      obtain ⟨i, rfl, hi, hgi, uo, un, uc, xo, xn, xc, rfl, rfl, K⟩ := hrel
      by_cases hlt : i < n
      · obtain ⟨y, hy⟩ : ∃ y, KV[i]? = some y := ⟨_, List.getElem?_eq_getElem (by have := HN.out; omega)⟩
        have hst := erase_step (p := p) hy
        have i0 : (0 : Int) ≤ (i : Int) := by omega
        have i1 : (i : Int) < (n : Int) := by omega
        have hwi : IntKind.i64.wrap ((i : Int) + 1) = (i : Int) + 1 := by have := HP.out; have := HNb.out; rw [IntKind.wrap_i64]; omega
        have hli : ((KV.take i).eraseIdx p).length ≤ i := Nat.le_trans (List.length_eraseIdx_le _ _) (by rw [List.length_take]; omega)
        by_cases hip : i = p
        · have hz : ((i : Int) == (p : Int)) = true := beq_iff_eq.2 (by omega)
          have hzn : ((i : Int) != (p : Int)) = false := by simp [bne, hz]
          have hzi : (i : Int) = (p : Int) := by omega
          rw [if_pos hip] at hst
          have K2 : Kept (KM w1 wr (.slice uo un uc) (.slice xo xn xc) (Dc.keys ((KV.take (i + 1)).eraseIdx p)) (((KV.take (i + 1)).eraseIdx p).map Prod.snd)) := by rw [hst]; exact K.out
          have HLT := keep hlt
          clear hy hst hli K hzi
          subst hip
          go_wp2
          go_roundg (n - (i + 1))
          case measure => have := HLT.out; omega
          case rel => exact ⟨i + 1, by simp, HLT.out, Nat.le_refl _, uo, un, uc, xo, xn, xc, rfl, rfl, K2.out⟩
        · have hz : ((i : Int) == (p : Int)) = false := beq_eq_false_iff_ne.2 (by omega)
          have hzn : ((i : Int) != (p : Int)) = true := by simp [bne, hz]
          have hzi : ¬ (i : Int) = (p : Int) := by omega
          rw [if_neg hip] at hst
          obtain ⟨k4, _, kat⟩ := HCK.out wr K.out.bel
          obtain ⟨ky, _⟩ := kat i y hy
          obtain ⟨ko2, kn2, kc2, W4, a1, K4⟩ := K.out.key y.1 (by simp only [Dc.keys, List.length_map]; have := HP.out; have := HNb.out; omega)
          obtain ⟨_, k5, kat4⟩ := HCK.out W4 K4.bel
          obtain ⟨_, vy⟩ := kat4 i y hy
          obtain ⟨vo2, vn2, vc2, W6, a2, K6⟩ := K4.num y.2 (by rw [List.length_map]; have := HP.out; have := HNb.out; omega)
          have K2 : Kept (KM w1 W6 (.slice ko2 kn2 kc2) (.slice vo2 vn2 vc2) (Dc.keys ((KV.take (i + 1)).eraseIdx p)) (((KV.take (i + 1)).eraseIdx p).map Prod.snd)) := by
            rw [hst]
            have e1 : Dc.keys ((KV.take i).eraseIdx p ++ [y]) = Dc.keys ((KV.take i).eraseIdx p) ++ [y.1] := by simp [Dc.keys]
            have e2 : ((KV.take i).eraseIdx p ++ [y]).map Prod.snd = ((KV.take i).eraseIdx p).map Prod.snd ++ [y.2] := by simp
            rw [e1, e2]
            exact K6
          obtain ⟨W3, hW3⟩ : ∃ x', wr.alloc (.cells #[.string y.1] 9) = x' := ⟨_, rfl⟩
          obtain ⟨W5, hW5⟩ : ∃ x', W4.alloc (.cells #[.int .i64 y.2] 3) = x' := ⟨_, rfl⟩
          rw [hW3] at a1
          rw [hW5] at a2
          have A1 := keep a1
          have A2 := keep a2
          have HLT := keep hlt
          clear hst hli K K4 K6 a1 a2 kat kat4 hip
          go_wp2_with (at_builtin; first | refine wpList_app_run rfl _ _ _ _ rfl _ _ _ rfl rfl A1.out ?_ | refine wpList_app_run rfl _ _ _ _ rfl _ _ _ rfl rfl A2.out ?_)
          go_roundg (n - (i + 1))
          case measure => have := HLT.out; omega
          case rel => exact ⟨i + 1, by simp, HLT.out, Nat.le_refl _, ko2, kn2, kc2, vo2, vn2, vc2, rfl, rfl, K2.out⟩
      · obtain rfl : i = n := by omega
        have hK := K.out
        rw [show KV.take i = KV from List.take_of_length_le (by have := HN.out; omega)] at hK
        obtain ⟨ko', kc', e1, _⟩ := hK.kx.form
        have hkn : un = i - 1 := by
          injection e1 with _ e2 _
          rw [e2]
          simp only [Dc.keys, List.length_map]
          exact HLE.out
        obtain ⟨nn, hnn⟩ : ∃ m, i - 1 = m := ⟨_, rfl⟩
        rw [hnn] at hkn
        subst hkn
        obtain ⟨W17, hW17⟩ : ∃ x', (wr.setCell ⟨b, 4, none⟩ (.slice uo un uc)).setCell ⟨b, 5, none⟩ (.slice xo xn xc) = x' := ⟨_, rfl⟩
        have RQ : Kept (∃ r17, RD W17 r17 b seed s1 (KV.eraseIdx p) ∧ Fr w r W17 r17) := by
          obtain ⟨h1, h2, ov, yv, kv, vv, h3, h4, h5, h6, h7⟩ := HD.out.1
          have hbl := HD.out.1.lt
          have hr1 := role_new (w := w1) (r := r1) (u := .slice uo un uc) (x := (6, 0)) hK.kn
          have hr2 := role_new (w := w1) (r := role r1 (.slice uo un uc) (6, 0)) (u := .slice xo xn xc) (x := (7, 0)) hK.vn
          have hr : ∀ k, k < w1.heap.size → role (role r1 (.slice uo un uc) (6, 0)) (.slice xo xn xc) (7, 0) k = r1 k := fun k hk => (hr2 k hk).trans (hr1 k hk)
          have ho : Only b wr W17 := by rw [← hW17]; exact ⟨⟨rfl, rfl, rfl⟩, by simp [World.setCell], fun k hk => by rw [Below.heap_setCell _ _ _ _ hk, Below.heap_setCell _ _ _ _ hk]⟩
          have ap : ∀ k, (Value.slice uo un uc).ownBlock = some k → (Value.slice xo xn xc).ownBlock ≠ some k := fun k e => hK.apart e
          obtain ⟨t1, t2⟩ := RD.upd (s' := s1) (KV' := KV.eraseIdx p) HD.out.1 hK.bel hr (role_lt (role_lt (fun k hk => Nat.lt_of_lt_of_le (h1 k hk) hK.bel.size) (fun k e => own_lt hK.kx e)) (fun k e => own_lt hK.ix e)) ho (ov := ov) (yv := yv) (kv := .slice uo un uc) (vv := .slice xo xn xc) (by rw [← hW17]; exact cells_setCell (cells_setCell ((hK.bel.block b hbl).trans h3))) (h4.more hK.bel hr) (h5.more hK.bel hr) ⟨hK.kx, fun k e => by unfold role; rw [if_neg (ap k e), if_pos e]⟩ ⟨hK.ix, fun k e => by unfold role; rw [if_pos e]⟩
          exact ⟨_, t1, HF.out.trans t2⟩
        have cb4 := (HCK.out wr K.out.bel).1
        have cb5 := (HCK.out wr K.out.bel).2.1
        have fb : ∀ j, wr.frozen? ⟨b, j, none⟩ = false := fun j => (World.frozen?_of_block (w := w1) (a := ⟨b, j, none⟩) (K.out.bel.block b HD.out.1.lt)).trans (HD.out.1.free j)
        obtain ⟨r17, RQ17⟩ := RQ.out
        have RG := keep RQ17
        have HNN := keep hnn
        clear RQ RQ17 hK K e1 hnn HCK
        go_upto_region 18 with fail
        clear cb4 cb5 fb
        obtain ⟨ao, ca, bo, cb, ko, kc, vo, vc, h3, h4, h5, h6, h7⟩ := RG.out.1.parts
        try dsimp only at h3 h4 h5
        obtain ⟨c0, c1, c2, c3, c4, c5, cf⟩ := six h3
        rw [HM0.out.1] at c1
        obtain ⟨q, hq⟩ : ∃ q, h key % n0 = q := ⟨_, rfl⟩
        have MP := keep (place_any hH W17 b n0 ca ao key HKy.out c0 HM0.out.2.1 HM0.out.2.2)
        rw [hq] at MP
        have hqn : q < n0 := by rw [← hq]; exact Nat.mod_lt _ HM0.out.2.1
        obtain ⟨dd, hdd⟩ : ∃ dd, s1.old[q]? = some dd := ⟨_, List.getElem?_eq_getElem (by rw [HM0.out.1]; exact hqn)⟩
        obtain ⟨gy, capy, e1, hrg, hgl⟩ := h4.form (by rw [HM0.out.1]; omega)
        have hbo : ao = some ⟨gy, 0, none⟩ := by injection e1
        subst hbo
        obtain ⟨vb, hvb, hcb, _⟩ := h4.at hdd
        have fz := h4.free
        obtain ⟨vbo, vbc, e2, _⟩ := hcb.tx.form
        obtain ⟨dl, hdl⟩ : ∃ n, (Dc.keys dd).length = n := ⟨_, rfl⟩
        have hdb : dl ≤ 4000000000000 := by
          have q2 : dd.length ≤ s1.old.flatten.length := (List.sublist_flatten_of_mem (List.mem_of_getElem? hdd)).length_le
          have q3 := HFL.out
          have q5 := HNb.out
          simp only [Dc.keys, List.length_map] at hdl
          omega
        have mA := without_any W17.drew key vb (Dc.keys dd) (hcb.tx.bel (Below.refl _ W17).drew) (by rw [hdl]; exact hdb)
        rw [hdl] at e2
        subst e2
        rw [filt_keys] at mA
        have MA := keep mA
        have hst : s1.old.set q (Dc.without key dd) = s1.old.map (Dc.without key) := by
          have := del_is (h := h) (T := s1.old) (dd := dd) HI.out.put0 (key := key) (by rw [HM0.out.1, hq]; exact hdd)
          rw [HM0.out.1, hq] at this
          exact this
        have HNX : Kept (∀ w8 u WX, Mine W17.drew w8 u (Dc.keys (Dc.without key dd)) → w8.setCell ⟨gy, q, none⟩ u = WX → (w8.cell? ⟨b, 1, none⟩ = some (.slice (some ⟨gy, 0, none⟩) n0 ca) ∧ WX.cell? ⟨b, 1, none⟩ = some (.slice (some ⟨gy, 0, none⟩) n0 ca)) ∧ w8.cell? ⟨gy, q, none⟩ = some (.slice vbo dl vbc) ∧ (∀ k, w8.frozen? ⟨gy, k, none⟩ = false) ∧ ∃ r9, RD WX r9 b seed { s1 with old := s1.old.map (Dc.without key) } (KV.eraseIdx p) ∧ Fr w r WX r9) := fun w8 u WX hm hW9 => by
          have hb8 : Below W17.heap.size W17 w8 := (Below.refl _ W17).drew.trans hm.2.2
          have h5' := h4
          rw [HM0.out.1] at h5'
          obtain ⟨t1, t2⟩ := RG.out.1.put0 (i := q) (c := dd) (c' := Dc.without key dd) c1 h5' hdd hb8 hm.1 hm.2.1 hW9
          have hbg : b ≠ gy := fun e => by have h1 := RG.out.1.2.1; rw [e, hrg] at h1; cases h1
          have k2 := (hb8.cell (p := ⟨b, 1, none⟩) (World.block_lt_of_cell? _ _ c1)).trans c1
          exact ⟨⟨k2, by rw [← hW9, World.cell?_setCell_other _ _ _ _ (by intro e; cases e; exact hbg rfl)]; exact k2⟩, (hb8.cell (p := ⟨gy, q, none⟩) (World.block_lt_of_cell? _ _ hvb)).trans hvb, fun k => (World.frozen?_of_block (w := W17) (a := ⟨gy, k, none⟩) (hb8.block gy hgl)).trans (fz k), _, by rw [← hst]; exact t1, RG.out.2.trans t2.1⟩
        have SY : Kept (W17.drew.cell? ⟨b, 1, none⟩ = some (.slice (some ⟨gy, 0, none⟩) n0 ca)) := c1
        have hvb' : W17.drew.cell? ⟨gy, q, none⟩ = some (.slice vbo dl vbc) := hvb
        have q0 : (0 : Int) ≤ (q : Int) := by omega
        have q1 : (q : Int) < (n0 : Int) := by omega
        have hm0 : decide ((0 : Int) < (n0 : Int)) = true := decide_eq_true (by have := HM0.out.2.1; omega)
        have hm0' : (0 : Int) < (n0 : Int) := by have := HM0.out.2.1; omega
        clear c2 c0 c3 c4 c5 cf h3 h4 h5 h6 h7 hq hqn hdd hrg hgl hcb fz e1 hdl hdb mA hst
        go_wp2_with fail
        refine MP.out.mono ?_
        rintro _ _ ⟨rfl, hw⟩
        obtain rfl := hw.symm
        clear MP
        go_wp2_with fail
        refine wp_region_held_drew (S := fun W => W.cell? ⟨b, 1, none⟩ = some (.slice (some ⟨gy, 0, none⟩) n0 ca)) (by kernel_rfl) SY.out (fun hHeld => ?_)
        refine wpAnyH_take (i := 0) (oi := { dst := some 67, op := _, type := _, pos := _, after := _, guard := _ }) (v := ?v1) rfl (by kernel_rfl) (by kernel_rfl) (by kernel_rfl) (fun _ _ _ h => h) (Or.inl ⟨by rfl, ?hy1⟩) (by assumption) ?rest1
        case hy1 => (intro w hSw; obtain p0 := hSw; go_simp; try with_reducible rfl)
        try simp only [Act.put, List.setIfInBounds_toArray, List.set_cons_zero, List.set_cons_succ]
        refine wpAnyH_take (i := 1) (oi := { dst := some 68, op := _, type := _, pos := _, after := _, guard := _ }) (v := ?v2) rfl (by kernel_rfl) (by kernel_rfl) (by kernel_rfl) (fun _ _ _ h => h) (Or.inl ⟨by rfl, ?hy2⟩) (by assumption) ?rest2
        case hy2 => (intro w hSw; obtain p0 := hSw; go_simp; try with_reducible rfl)
        try simp only [Act.put, List.setIfInBounds_toArray, List.set_cons_zero, List.set_cons_succ]
        refine wpAnyH_take (i := 2) (oi := { dst := some 69, op := _, type := _, pos := _, after := _, guard := _ }) (v := ?v3) rfl (by kernel_rfl) (by kernel_rfl) (by kernel_rfl) (fun _ _ _ h => h) (Or.inl ⟨by rfl, ?hy3⟩) (by assumption) ?rest3
        case hy3 => (intro w hSw; obtain p0 := hSw; go_simp; try with_reducible rfl)
        try simp only [Act.put, List.setIfInBounds_toArray, List.set_cons_zero, List.set_cons_succ]
        refine wpAnyH_take (i := 3) (oi := { dst := some 70, op := _, type := _, pos := _, after := _, guard := _ }) (v := (.slice (some ⟨gy, 0, none⟩) n0 ca)) rfl (by kernel_rfl) (by kernel_rfl) (by kernel_rfl) (fun _ _ _ h => h) (Or.inl ⟨by rfl, ?hy4⟩) (by assumption) ?rest4
        case hy4 => (intro w hSw; obtain p0 := hSw; first | (go_simp; done) | (go_simp; simp [*]; done) | (simp [*]; go_simp; done))
        try simp only [Act.put, List.setIfInBounds_toArray, List.set_cons_zero, List.set_cons_succ]
        refine wpAnyH_take (i := 4) (oi := { dst := some 71, op := _, type := _, pos := _, after := _, guard := _ }) (v := ?v5) rfl (by kernel_rfl) (by kernel_rfl) (by kernel_rfl) (fun _ _ _ h => h) (Or.inl ⟨by rfl, ?hy5⟩) (by assumption) ?rest5
        case hy5 => (intro w hSw; obtain p0 := hSw; go_simp; try with_reducible rfl)
        try simp only [Act.put, List.setIfInBounds_toArray, List.set_cons_zero, List.set_cons_succ]
        refine wpAnyH_take (i := 5) (oi := { dst := some 72, op := _, type := _, pos := _, after := _, guard := _ }) (v := ?v6) rfl (by kernel_rfl) (by kernel_rfl) (by kernel_rfl) (fun _ _ _ h => h) (Or.inl ⟨by rfl, ?hy6⟩) (by assumption) ?rest6
        case hy6 => (intro w hSw; obtain p0 := hSw; go_simp; try with_reducible rfl)
        try simp only [Act.put, List.setIfInBounds_toArray, List.set_cons_zero, List.set_cons_succ]
        refine wpAnyH_take (i := 6) (oi := { dst := some 73, op := _, type := _, pos := _, after := _, guard := _ }) (v := ?v7) rfl (by kernel_rfl) (by kernel_rfl) (by kernel_rfl) (fun _ _ _ h => h) (Or.inl ⟨by rfl, ?hy7⟩) (by assumption) ?rest7
        case hy7 => (intro w hSw; obtain p0 := hSw; go_simp; try with_reducible rfl)
        try simp only [Act.put, List.setIfInBounds_toArray, List.set_cons_zero, List.set_cons_succ]
        refine wpAnyH_take (i := 7) (oi := { dst := some 74, op := _, type := _, pos := _, after := _, guard := _ }) (v := ?v8) rfl (by kernel_rfl) (by kernel_rfl) (by kernel_rfl) (fun _ _ _ h => h) (Or.inl ⟨by rfl, ?hy8⟩) (by assumption) ?rest8
        case hy8 => (intro w hSw; obtain p0 := hSw; go_simp; try with_reducible rfl)
        try simp only [Act.put, List.setIfInBounds_toArray, List.set_cons_zero, List.set_cons_succ]
        refine wpAnyH_take (i := 8) (oi := { dst := some 75, op := _, type := _, pos := _, after := _, guard := _ }) (v := (.slice (some ⟨gy, 0, none⟩) n0 ca)) rfl (by kernel_rfl) (by kernel_rfl) (by kernel_rfl) (fun _ _ _ h => h) (Or.inl ⟨by rfl, ?hy9⟩) (by assumption) ?rest9
        case hy9 => (intro w hSw; obtain p0 := hSw; first | (go_simp; done) | (go_simp; simp [*]; done) | (simp [*]; go_simp; done))
        try simp only [Act.put, List.setIfInBounds_toArray, List.set_cons_zero, List.set_cons_succ]
        refine wpAnyH_take (i := 9) (oi := { dst := some 76, op := _, type := _, pos := _, after := _, guard := _ }) (v := ?v10) rfl (by kernel_rfl) (by kernel_rfl) (by kernel_rfl) (fun _ _ _ h => h) (Or.inl ⟨by rfl, ?hy10⟩) (by assumption) ?rest10
        case hy10 => (intro w hSw; obtain p0 := hSw; go_simp; try with_reducible rfl)
        try simp only [Act.put, List.setIfInBounds_toArray, List.set_cons_zero, List.set_cons_succ]
        refine wpAnyH_take (i := 10) (oi := { dst := some 77, op := _, type := _, pos := _, after := _, guard := _ }) (v := (.pointer (some ⟨gy, q, none⟩))) rfl (by kernel_rfl) (by kernel_rfl) (by kernel_rfl) (fun _ _ _ h => h) (Or.inl ⟨by rfl, ?hy11⟩) (by assumption) ?rest11
        case hy11 => (intro w hSw; obtain p0 := hSw; first | (go_simp; done) | (go_simp; simp [*]; done) | (simp [*]; go_simp; done))
        try simp only [Act.put, List.setIfInBounds_toArray, List.set_cons_zero, List.set_cons_succ]
        refine wpAnyH_take (i := 12) (oi := { dst := some 79, op := _, type := _, pos := _, after := _, guard := _ }) (v := ?v12) rfl (by kernel_rfl) (by kernel_rfl) (by kernel_rfl) (fun _ _ _ h => h) (Or.inl ⟨by rfl, ?hy12⟩) (by assumption) ?rest12
        case hy12 => (intro w hSw; obtain p0 := hSw; go_simp; try with_reducible rfl)
        try simp only [Act.put, List.setIfInBounds_toArray, List.set_cons_zero, List.set_cons_succ]
        refine wpAnyH_ready (rs := [11]) (by kernel_rfl) (by simp) ?_
        refine AllReadyH.cons (o := { dst := some 78, op := _, type := _, pos := _, after := _, guard := _ }) rfl (fun K hK => ?_) AllReadyH.nil
        go_simp
        refine hK.out _ _ SY.out (fun hHeld => ?_)
        try simp only [Act.put, List.setIfInBounds_toArray, List.set_cons_zero, List.set_cons_succ]
        clear hK
        refine wpAnyH_ready (rs := [13]) (by kernel_rfl) (by simp) ?_
        refine AllReadyH.cons (o := { dst := some 80, op := _, type := _, pos := _, after := _, guard := _ }) rfl (fun K hK => ?_) AllReadyH.nil
        go_simp
        refine MA.out.mono ?_
        rintro _ w8 ⟨u, rfl, hu⟩
        obtain ⟨zo, zn, zc, rfl⟩ := mine_slice hu
        obtain ⟨W9, hW9⟩ : ∃ x, w8.setCell ⟨gy, q, none⟩ (.slice zo zn zc) = x := ⟨_, rfl⟩
        obtain ⟨⟨y1, y2⟩, y3, y4, rW9, y5⟩ := HNX.out w8 _ W9 hu hW9
        have Y1 := keep y1
        have Y2 := keep y2
        have R9 := keep y5
        refine hK.out _ _ Y1.out (fun hHeld => ?_)
        try simp only [Act.put, List.setIfInBounds_toArray, List.set_cons_zero, List.set_cons_succ]
        clear hK MA HNX hu y1 y2 y5 hvb hvb'
        refine wpAnyH_take (i := 14) (oi := { dst := some 81, op := _, type := _, pos := _, after := _, guard := _ }) (v := (.pointer (some ⟨gy, q, none⟩))) rfl (by kernel_rfl) (by kernel_rfl) (by kernel_rfl) (fun _ _ _ h => h) (Or.inl ⟨by rfl, ?hy13⟩) (by assumption) ?rest13
        case hy13 => (intro w hSw; obtain p0 := hSw; first | (go_simp; done) | (go_simp; simp [*]; done) | (simp [*]; go_simp; done))
        try simp only [Act.put, List.setIfInBounds_toArray, List.set_cons_zero, List.set_cons_succ]
        refine wpAnyH_ready (rs := [15]) (by kernel_rfl) (by simp) ?_
        refine AllReadyH.cons (o := { dst := none, op := _, type := _, pos := _, after := _, guard := _ }) rfl (fun K hK => ?_) AllReadyH.nil
        go_simp
        try rw [hW9]
        refine hK.out _ _ Y2.out (fun hHeld => ?_)
        try simp only [Act.put, List.setIfInBounds_toArray, List.set_cons_zero, List.set_cons_succ]
        clear hK y3 y4
        refine wpAnyH_done (by kernel_rfl) ?_ _
        clear hHeld Y1 Y2 SY hW9 c1 q0 q1 hm0 hm0'
        by_cases hy : s1.young = []
        · have hn1e : n1 = 0 := by rw [← hn1, hy]; rfl
          have hm0 : decide ((0 : Int) < (n1 : Int)) = false := by rw [hn1e]; rfl
          have hm0n : decide (0 < n1) = false := by rw [hn1e]; rfl
          have hst : Dc.every (Dc.without key) s1 = { s1 with old := s1.old.map (Dc.without key) } := by unfold Dc.every; rw [hy]; rfl
          obtain ⟨ao, ca, bo, cb, ko, kc, vo, vc, h3, h4, h5, h6, h7⟩ := R9.out.1.parts
          try dsimp only at h3 h4 h5
          obtain ⟨c0, c1, c2, c3, c4, c5, cf⟩ := six h3
          rw [List.length_map, HM0.out.1] at c1
          rw [hn1] at c2
          have hw8 : IntKind.i64.wrap (8 * (un : Int)) = 8 * (un : Int) := by have := HP.out; have := HNb.out; have := HNN.out; rw [IntKind.wrap_i64]; omega
          by_cases hsh : 4 < n0 ∧ 8 * un ≤ n0
          · have z1 : decide ((4 : Int) < (n0 : Int)) = true := decide_eq_true (by omega)
            have z1' : (4 : Int) < (n0 : Int) := by omega
            have z1n : decide (4 < n0) = true := decide_eq_true hsh.1
            have z2 : decide (8 * (un : Int) ≤ (n0 : Int)) = true := decide_eq_true (by omega)
            have z2' : 8 * (un : Int) ≤ (n0 : Int) := by omega
            have HSH : Kept ((Dc.delete h s key).1 = { s1 with old := s1.old.map (Dc.without key), young := List.replicate (Dc.fit un) [], pos := 0 }) := by
              show _ = _
              rw [HSET.out, HNN.out, shrink_go ⟨by simp [Dc.every, hy], by simp only [Dc.every, List.length_map, HM0.out.1]; exact hsh.1, by simp only [Dc.every, List.length_map, HM0.out.1]; exact hsh.2⟩, hst]
            have HUN : Kept (un ≤ N) := by have := HP.out; have := HNN.out; show un ≤ N; omega
            clear c0 c3 c4 c5 cf h3 h4 h5 h6 h7 hy hst hsh hn1 hn1e
            go_wp2_with fail
            clear z1 z1' z1n z2 z2' hw8 c1 c2 hm0 hm0n
            go_loopg [10] un (fun kx s10 wr => ∃ f m : Nat, s10 = .int .i64 m ∧ un - m ≤ kx ∧ Kept (4 ≤ m ∧ Dc.fit un = Dc.fitF f m un ∧ un ≤ m + f ∧ wr = W9 ∧ m ≤ 2 * un + 4))
            case atStart => exact ⟨un, 4, rfl, by omega, by omega, rfl, by omega, rfl, by omega⟩
            case round =>
              obtain ⟨f, m, rfl, hgm, KF⟩ := hrel
              obtain rfl : wr = W9 := KF.out.2.2.2.1
              by_cases hmu : m < un
              · have zl : (m : Int) < (un : Int) := by omega
                have hw2 : IntKind.i64.wrap (2 * (m : Int)) = 2 * (m : Int) := by have := HUN.out; have := HNb.out; rw [IntKind.wrap_i64]; omega
                obtain ⟨f', hf', hfe⟩ := fit_go hmu KF.out.2.2.1
                have KF2 : Kept (4 ≤ 2 * m ∧ Dc.fit un = Dc.fitF f' (2 * m) un ∧ un ≤ 2 * m + f' ∧ 2 * m ≤ 2 * un + 4) := ⟨by have := KF.out.1; omega, by rw [KF.out.2.1]; exact hfe, by have := KF.out; omega, by omega⟩
                have HM4 : Kept (4 ≤ m ∧ m < un) := ⟨KF.out.1, hmu⟩
                clear hfe hf' KF
                go_wp2
                go_roundg (un - 2 * m)
                case measure => have := HM4.out; omega
                case rel => exact ⟨f', 2 * m, by simp, Nat.le_refl _, KF2.out.1, KF2.out.2.1, KF2.out.2.2.1, rfl, KF2.out.2.2.2⟩
              · have zl : ¬ (m : Int) < (un : Int) := by omega
                have hfm : Dc.fit un = m := by rw [KF.out.2.1]; exact fit_end hmu
                obtain ⟨w3, mk, hT, b3, l3⟩ := make_tab (V := V) wr rW9 1 m (by have := KF.out; have := HUN.out; have := HNb.out; omega)
                obtain ⟨H, hH'⟩ : ∃ H, wr.heap.size = H := ⟨_, rfl⟩
                obtain ⟨ao, ca, bo, cb, ko, kc, vo, vc, h3, h4, h5, h6, h7⟩ := R9.out.1.parts
                try dsimp only at h3 h4 h5
                obtain ⟨c0, c1, c2, c3, c4, c5, cf⟩ := six h3
                obtain ⟨W3, hW3⟩ : ∃ x, (w3.setCell ⟨b, 2, none⟩ (.slice (some ⟨H, 0, none⟩) m m)).setCell ⟨b, 3, none⟩ (.int .i64 0) = x := ⟨_, rfl⟩
                obtain ⟨t1, t2⟩ := R9.out.1.mk1 (W := W3) (n := m) hT b3 l3 (by rw [hH']; exact hW3)
                have HX : Kept (∃ r', Rdd h N W3 r' b seed (Dc.delete h s key).1 (Dc.without key KV) ∧ Fr w r W3 r') := HEnd.out W3 _ (by
                  rw [HSH.out, hfm, ← HER.out]
                  exact t1) (R9.out.2.trans t2)
                rw [hH'] at mk
                have kk := fun i u (c : wr.cell? ⟨b, i, none⟩ = some u) => (b3.cell (p := ⟨b, i, none⟩) (World.block_lt_of_cell? _ _ c)).trans c
                have k2 := kk 2 _ c2
                have k3 := kk 3 _ c3
                have kf3 : ∀ i, w3.frozen? ⟨b, i, none⟩ = false := fun i => (World.frozen?_of_block (w := wr) (a := ⟨b, i, none⟩) (b3.block b R9.out.1.lt)).trans (cf i)
                clear c0 c1 c2 c3 c4 c5 cf h3 h4 h5 h6 h7 t1 t2 hT b3 l3 kk KF hfm
                generalize s1.young.length = q1 at *
                go_wp2
                go_ret
                exact ⟨by rw [HL.out]; rfl, HX.out⟩
          · have HX : Kept (∃ r', Rdd h N W9 r' b seed (Dc.delete h s key).1 (Dc.without key KV) ∧ Fr w r W9 r') := HEnd.out W9 rW9 (by
              rw [HSET.out, HNN.out, shrink_stay (fun e => hsh ⟨by have := e.2.1; simp only [Dc.every, List.length_map, HM0.out.1] at this; exact this, by have := e.2.2; simp only [Dc.every, List.length_map, HM0.out.1] at this; exact this⟩), hst, ← HER.out]
              exact R9.out.1) R9.out.2
            by_cases h4n : 4 < n0
            · have z1 : decide ((4 : Int) < (n0 : Int)) = true := decide_eq_true (by omega)
              have z1' : (4 : Int) < (n0 : Int) := by omega
              have z1n : decide (4 < n0) = true := decide_eq_true h4n
              have z2 : decide (8 * (un : Int) ≤ (n0 : Int)) = false := decide_eq_false (by omega)
              have z2' : (n0 : Int) < 8 * (un : Int) := by omega
              clear c0 c3 c4 c5 cf h3 h4 h5 h6 h7 hy hst hsh hn1 hn1e h4n
              go_wp2
              go_ret
              exact ⟨by rw [HL.out]; rfl, HX.out⟩
            · have z1 : decide ((4 : Int) < (n0 : Int)) = false := decide_eq_false (by omega)
              have z1n : decide (4 < n0) = false := decide_eq_false h4n
              clear c0 c3 c4 c5 cf h3 h4 h5 h6 h7 hy hst hsh hn1 hn1e h4n
              go_wp2
              go_ret
              exact ⟨by rw [HL.out]; rfl, HX.out⟩
        · have HM1 : Kept (s1.young.length = n1 ∧ 0 < n1 ∧ n1 ≤ maxLen) := ⟨hn1, by rw [← hn1]; exact List.length_pos_iff.2 hy, by have := HB0.out; have := HNb.out; unfold maxLen; omega⟩
          have HSE : Kept ((Dc.delete h s key).1 = { old := s1.old.map (Dc.without key), young := s1.young.map (Dc.without key), pos := s1.pos }) := by
            show _ = _
            rw [HSET.out, shrink_stay (fun e => hy (List.map_eq_nil_iff.1 e.1))]
            rfl
          obtain ⟨ao, ca, bo, cb, ko, kc, vo, vc, h3, h4, h5, h6, h7⟩ := R9.out.1.parts
          try dsimp only at h3 h4 h5
          obtain ⟨c0, c1, c2, c3, c4, c5, cf⟩ := six h3
          rw [hn1] at c2
          have hm0 : decide ((0 : Int) < (n1 : Int)) = true := decide_eq_true (by have := HM1.out.2.1; omega)
          have hm0' : (0 : Int) < (n1 : Int) := by have := HM1.out.2.1; omega
          clear c0 c1 c3 c4 c5 cf h3 h4 h5 h6 h7 hy
          go_upto_region 21 with fail
          clear hm0 hm0' c2
          obtain ⟨ao, ca, bo, cb, ko, kc, vo, vc, h3, h4, h5, h6, h7⟩ := R9.out.1.parts
          try dsimp only at h3 h4 h5
          obtain ⟨c0, c1, c2, c3, c4, c5, cf⟩ := six h3
          rw [HM1.out.1] at c2
          obtain ⟨q, hq⟩ : ∃ q, h key % n1 = q := ⟨_, rfl⟩
          have MP := keep (place_any hH W9 b n1 cb bo key HKy.out c0 HM1.out.2.1 HM1.out.2.2)
          rw [hq] at MP
          have hqn : q < n1 := by rw [← hq]; exact Nat.mod_lt _ HM1.out.2.1
          obtain ⟨dd, hdd⟩ : ∃ dd, s1.young[q]? = some dd := ⟨_, List.getElem?_eq_getElem (by rw [HM1.out.1]; exact hqn)⟩
          obtain ⟨gy, capy, e1, hrg, hgl⟩ := h5.form (by rw [HM1.out.1]; omega)
          have hbo : bo = some ⟨gy, 0, none⟩ := by injection e1
          subst hbo
          obtain ⟨vb, hvb, hcb, _⟩ := h5.at hdd
          have fz := h5.free
          obtain ⟨vbo, vbc, e2, _⟩ := hcb.tx.form
          obtain ⟨dl, hdl⟩ : ∃ n, (Dc.keys dd).length = n := ⟨_, rfl⟩
          have hdb : dl ≤ 4000000000000 := by
            have q2 : dd.length ≤ s1.young.flatten.length := (List.sublist_flatten_of_mem (List.mem_of_getElem? hdd)).length_le
            have q3 := HFL.out
            have q5 := HNb.out
            simp only [Dc.keys, List.length_map] at hdl
            omega
          have mA := without_any W9.drew key vb (Dc.keys dd) (hcb.tx.bel (Below.refl _ W9).drew) (by rw [hdl]; exact hdb)
          rw [hdl] at e2
          subst e2
          rw [filt_keys] at mA
          have MA := keep mA
          have hst : s1.young.set q (Dc.without key dd) = s1.young.map (Dc.without key) := by
            have := del_is (h := h) (T := s1.young) (dd := dd) HI.out.put1 (key := key) (by rw [HM1.out.1, hq]; exact hdd)
            rw [HM1.out.1, hq] at this
            exact this
          have HNX : Kept (∀ w8 u WX, Mine W9.drew w8 u (Dc.keys (Dc.without key dd)) → w8.setCell ⟨gy, q, none⟩ u = WX → (w8.cell? ⟨b, 2, none⟩ = some (.slice (some ⟨gy, 0, none⟩) n1 cb) ∧ WX.cell? ⟨b, 2, none⟩ = some (.slice (some ⟨gy, 0, none⟩) n1 cb)) ∧ w8.cell? ⟨gy, q, none⟩ = some (.slice vbo dl vbc) ∧ (∀ k, w8.frozen? ⟨gy, k, none⟩ = false) ∧ ∃ r9, RD WX r9 b seed { old := s1.old.map (Dc.without key), young := s1.young.map (Dc.without key), pos := s1.pos } (KV.eraseIdx p) ∧ Fr w r WX r9) := fun w8 u WX hm hW9 => by
            have hb8 : Below W9.heap.size W9 w8 := (Below.refl _ W9).drew.trans hm.2.2
            have h5' := h5
            rw [HM1.out.1] at h5'
            obtain ⟨t1, t2⟩ := R9.out.1.put1 (i := q) (c := dd) (c' := Dc.without key dd) c2 h5' hdd hb8 hm.1 hm.2.1 hW9
            have hbg : b ≠ gy := fun e => by have h1 := R9.out.1.2.1; rw [e, hrg] at h1; cases h1
            have k2 := (hb8.cell (p := ⟨b, 2, none⟩) (World.block_lt_of_cell? _ _ c2)).trans c2
            exact ⟨⟨k2, by rw [← hW9, World.cell?_setCell_other _ _ _ _ (by intro e; cases e; exact hbg rfl)]; exact k2⟩, (hb8.cell (p := ⟨gy, q, none⟩) (World.block_lt_of_cell? _ _ hvb)).trans hvb, fun k => (World.frozen?_of_block (w := W9) (a := ⟨gy, k, none⟩) (hb8.block gy hgl)).trans (fz k), _, by rw [← hst]; exact t1, R9.out.2.trans t2.1⟩
          have SY : Kept (W9.drew.cell? ⟨b, 2, none⟩ = some (.slice (some ⟨gy, 0, none⟩) n1 cb)) := c2
          have hvb' : W9.drew.cell? ⟨gy, q, none⟩ = some (.slice vbo dl vbc) := hvb
          have q0 : (0 : Int) ≤ (q : Int) := by omega
          have q1 : (q : Int) < (n1 : Int) := by omega
          have hm0 : decide ((0 : Int) < (n1 : Int)) = true := decide_eq_true (by have := HM1.out.2.1; omega)
          have hm0' : (0 : Int) < (n1 : Int) := by have := HM1.out.2.1; omega
          clear c1 c0 c3 c4 c5 cf h3 h4 h5 h6 h7 hq hqn hdd hrg hgl hcb fz e1 hdl hdb mA hst
          go_wp2_with fail
          refine MP.out.mono ?_
          rintro _ _ ⟨rfl, hw⟩
          obtain rfl := hw.symm
          clear MP
          go_wp2_with fail
          refine wp_region_held_drew (S := fun W => W.cell? ⟨b, 2, none⟩ = some (.slice (some ⟨gy, 0, none⟩) n1 cb)) (by kernel_rfl) SY.out (fun hHeld => ?_)
          refine wpAnyH_take (i := 0) (oi := { dst := some 95, op := _, type := _, pos := _, after := _, guard := _ }) (v := ?v14) rfl (by kernel_rfl) (by kernel_rfl) (by kernel_rfl) (fun _ _ _ h => h) (Or.inl ⟨by rfl, ?hy14⟩) (by assumption) ?rest14
          case hy14 => (intro w hSw; obtain p0 := hSw; go_simp; try with_reducible rfl)
          try simp only [Act.put, List.setIfInBounds_toArray, List.set_cons_zero, List.set_cons_succ]
          refine wpAnyH_take (i := 1) (oi := { dst := some 96, op := _, type := _, pos := _, after := _, guard := _ }) (v := ?v15) rfl (by kernel_rfl) (by kernel_rfl) (by kernel_rfl) (fun _ _ _ h => h) (Or.inl ⟨by rfl, ?hy15⟩) (by assumption) ?rest15
          case hy15 => (intro w hSw; obtain p0 := hSw; go_simp; try with_reducible rfl)
          try simp only [Act.put, List.setIfInBounds_toArray, List.set_cons_zero, List.set_cons_succ]
          refine wpAnyH_take (i := 2) (oi := { dst := some 97, op := _, type := _, pos := _, after := _, guard := _ }) (v := ?v16) rfl (by kernel_rfl) (by kernel_rfl) (by kernel_rfl) (fun _ _ _ h => h) (Or.inl ⟨by rfl, ?hy16⟩) (by assumption) ?rest16
          case hy16 => (intro w hSw; obtain p0 := hSw; go_simp; try with_reducible rfl)
          try simp only [Act.put, List.setIfInBounds_toArray, List.set_cons_zero, List.set_cons_succ]
          refine wpAnyH_take (i := 3) (oi := { dst := some 98, op := _, type := _, pos := _, after := _, guard := _ }) (v := (.slice (some ⟨gy, 0, none⟩) n1 cb)) rfl (by kernel_rfl) (by kernel_rfl) (by kernel_rfl) (fun _ _ _ h => h) (Or.inl ⟨by rfl, ?hy17⟩) (by assumption) ?rest17
          case hy17 => (intro w hSw; obtain p0 := hSw; first | (go_simp; done) | (go_simp; simp [*]; done) | (simp [*]; go_simp; done))
          try simp only [Act.put, List.setIfInBounds_toArray, List.set_cons_zero, List.set_cons_succ]
          refine wpAnyH_take (i := 4) (oi := { dst := some 99, op := _, type := _, pos := _, after := _, guard := _ }) (v := ?v18) rfl (by kernel_rfl) (by kernel_rfl) (by kernel_rfl) (fun _ _ _ h => h) (Or.inl ⟨by rfl, ?hy18⟩) (by assumption) ?rest18
          case hy18 => (intro w hSw; obtain p0 := hSw; go_simp; try with_reducible rfl)
          try simp only [Act.put, List.setIfInBounds_toArray, List.set_cons_zero, List.set_cons_succ]
          refine wpAnyH_take (i := 5) (oi := { dst := some 100, op := _, type := _, pos := _, after := _, guard := _ }) (v := ?v19) rfl (by kernel_rfl) (by kernel_rfl) (by kernel_rfl) (fun _ _ _ h => h) (Or.inl ⟨by rfl, ?hy19⟩) (by assumption) ?rest19
          case hy19 => (intro w hSw; obtain p0 := hSw; go_simp; try with_reducible rfl)
          try simp only [Act.put, List.setIfInBounds_toArray, List.set_cons_zero, List.set_cons_succ]
          refine wpAnyH_take (i := 6) (oi := { dst := some 101, op := _, type := _, pos := _, after := _, guard := _ }) (v := ?v20) rfl (by kernel_rfl) (by kernel_rfl) (by kernel_rfl) (fun _ _ _ h => h) (Or.inl ⟨by rfl, ?hy20⟩) (by assumption) ?rest20
          case hy20 => (intro w hSw; obtain p0 := hSw; go_simp; try with_reducible rfl)
          try simp only [Act.put, List.setIfInBounds_toArray, List.set_cons_zero, List.set_cons_succ]
          refine wpAnyH_take (i := 7) (oi := { dst := some 102, op := _, type := _, pos := _, after := _, guard := _ }) (v := ?v21) rfl (by kernel_rfl) (by kernel_rfl) (by kernel_rfl) (fun _ _ _ h => h) (Or.inl ⟨by rfl, ?hy21⟩) (by assumption) ?rest21
          case hy21 => (intro w hSw; obtain p0 := hSw; go_simp; try with_reducible rfl)
          try simp only [Act.put, List.setIfInBounds_toArray, List.set_cons_zero, List.set_cons_succ]
          refine wpAnyH_take (i := 8) (oi := { dst := some 103, op := _, type := _, pos := _, after := _, guard := _ }) (v := (.slice (some ⟨gy, 0, none⟩) n1 cb)) rfl (by kernel_rfl) (by kernel_rfl) (by kernel_rfl) (fun _ _ _ h => h) (Or.inl ⟨by rfl, ?hy22⟩) (by assumption) ?rest22
          case hy22 => (intro w hSw; obtain p0 := hSw; first | (go_simp; done) | (go_simp; simp [*]; done) | (simp [*]; go_simp; done))
          try simp only [Act.put, List.setIfInBounds_toArray, List.set_cons_zero, List.set_cons_succ]
          refine wpAnyH_take (i := 9) (oi := { dst := some 104, op := _, type := _, pos := _, after := _, guard := _ }) (v := ?v23) rfl (by kernel_rfl) (by kernel_rfl) (by kernel_rfl) (fun _ _ _ h => h) (Or.inl ⟨by rfl, ?hy23⟩) (by assumption) ?rest23
          case hy23 => (intro w hSw; obtain p0 := hSw; go_simp; try with_reducible rfl)
          try simp only [Act.put, List.setIfInBounds_toArray, List.set_cons_zero, List.set_cons_succ]
          refine wpAnyH_take (i := 10) (oi := { dst := some 105, op := _, type := _, pos := _, after := _, guard := _ }) (v := (.pointer (some ⟨gy, q, none⟩))) rfl (by kernel_rfl) (by kernel_rfl) (by kernel_rfl) (fun _ _ _ h => h) (Or.inl ⟨by rfl, ?hy24⟩) (by assumption) ?rest24
          case hy24 => (intro w hSw; obtain p0 := hSw; first | (go_simp; done) | (go_simp; simp [*]; done) | (simp [*]; go_simp; done))
          try simp only [Act.put, List.setIfInBounds_toArray, List.set_cons_zero, List.set_cons_succ]
          refine wpAnyH_take (i := 12) (oi := { dst := some 107, op := _, type := _, pos := _, after := _, guard := _ }) (v := ?v25) rfl (by kernel_rfl) (by kernel_rfl) (by kernel_rfl) (fun _ _ _ h => h) (Or.inl ⟨by rfl, ?hy25⟩) (by assumption) ?rest25
          case hy25 => (intro w hSw; obtain p0 := hSw; go_simp; try with_reducible rfl)
          try simp only [Act.put, List.setIfInBounds_toArray, List.set_cons_zero, List.set_cons_succ]
          refine wpAnyH_ready (rs := [11]) (by kernel_rfl) (by simp) ?_
          refine AllReadyH.cons (o := { dst := some 106, op := _, type := _, pos := _, after := _, guard := _ }) rfl (fun K hK => ?_) AllReadyH.nil
          go_simp
          refine hK.out _ _ SY.out (fun hHeld => ?_)
          try simp only [Act.put, List.setIfInBounds_toArray, List.set_cons_zero, List.set_cons_succ]
          clear hK
          refine wpAnyH_ready (rs := [13]) (by kernel_rfl) (by simp) ?_
          refine AllReadyH.cons (o := { dst := some 108, op := _, type := _, pos := _, after := _, guard := _ }) rfl (fun K hK => ?_) AllReadyH.nil
          go_simp
          refine MA.out.mono ?_
          rintro _ w8 ⟨u, rfl, hu⟩
          obtain ⟨zo, zn, zc, rfl⟩ := mine_slice hu
          obtain ⟨W10, hW9⟩ : ∃ x, w8.setCell ⟨gy, q, none⟩ (.slice zo zn zc) = x := ⟨_, rfl⟩
          obtain ⟨⟨y1, y2⟩, y3, y4, rW10, y5⟩ := HNX.out w8 _ W10 hu hW9
          have Y1 := keep y1
          have Y2 := keep y2
          have R10 := keep y5
          refine hK.out _ _ Y1.out (fun hHeld => ?_)
          try simp only [Act.put, List.setIfInBounds_toArray, List.set_cons_zero, List.set_cons_succ]
          clear hK MA HNX hu y1 y2 y5 hvb hvb'
          refine wpAnyH_take (i := 14) (oi := { dst := some 109, op := _, type := _, pos := _, after := _, guard := _ }) (v := (.pointer (some ⟨gy, q, none⟩))) rfl (by kernel_rfl) (by kernel_rfl) (by kernel_rfl) (fun _ _ _ h => h) (Or.inl ⟨by rfl, ?hy26⟩) (by assumption) ?rest26
          case hy26 => (intro w hSw; obtain p0 := hSw; first | (go_simp; done) | (go_simp; simp [*]; done) | (simp [*]; go_simp; done))
          try simp only [Act.put, List.setIfInBounds_toArray, List.set_cons_zero, List.set_cons_succ]
          refine wpAnyH_ready (rs := [15]) (by kernel_rfl) (by simp) ?_
          refine AllReadyH.cons (o := { dst := none, op := _, type := _, pos := _, after := _, guard := _ }) rfl (fun K hK => ?_) AllReadyH.nil
          go_simp
          try rw [hW9]
          refine hK.out _ _ Y2.out (fun hHeld => ?_)
          try simp only [Act.put, List.setIfInBounds_toArray, List.set_cons_zero, List.set_cons_succ]
          clear hK y3 y4
          refine wpAnyH_done (by kernel_rfl) ?_ _
          clear hHeld Y1 Y2 SY hW9 c2 q0 q1 hm0 hm0'
          have HX : Kept (∃ r', Rdd h N W10 r' b seed (Dc.delete h s key).1 (Dc.without key KV) ∧ Fr w r W10 r') := HEnd.out W10 rW10 (by
            rw [HSE.out, ← HER.out]
            exact R10.out.1) R10.out.2
          go_wp2
          go_ret
          exact ⟨by rw [HL.out]; rfl, HX.out⟩
end Rd
end Go.Proofs.YtlfpkbjiofelkaaGreat
