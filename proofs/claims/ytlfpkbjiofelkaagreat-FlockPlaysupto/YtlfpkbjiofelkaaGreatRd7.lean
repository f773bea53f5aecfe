/-
  Contracts over this program: Set of the document's own dict.
-/
import Derived.Test.YtlfpkbjiofelkaaGreatRd6
import Derived.Deep.CutRange
namespace Go.Proofs.YtlfpkbjiofelkaaGreat
open Go.RowKit Go.Shelf
set_option linter.unusedVariables false
set_option linter.unusedSimpArgs false
set_option maxRecDepth 100000
namespace Rd
variable {V : Type}
/-- what Set makes of the keys that came -/
def kvSet (KV : List (ByteArray × Int)) (key : ByteArray) (v : Int) : List (ByteArray × Int) := if (Dc.look key KV).isSome then Dc.alter key v KV else KV ++ [(key, v)]
theorem mem_look {W : Type} {l : List (ByteArray × W)} {k : ByteArray} : k ∈ Dc.keys l ↔ Dc.look k l ≠ none := by
  rw [Ne, Dc.look_none, Classical.not_not]
theorem kvok_set {h : ByteArray → Nat} {s : Dc.St ByteArray V} {KV : List (ByteArray × Int)} (hk : KVok s KV) (hI : Dc.Inv h s) (key : ByteArray) (v : Int) (v' : V) : KVok (Dc.set h s key v').1 (kvSet KV key v) := by
  obtain ⟨q1, q2, q3, q4⟩ := Dc.set_inv hI key v'
  have hl := hk.look key
  unfold kvSet
  cases e : Dc.look key KV with
  | none =>
    rw [e] at hl
    have e2 : Dc.look key (Dc.all s) = none := by cases h' : Dc.look key (Dc.all s) with | none => rfl | some x => rw [h'] at hl; cases hl
    have hkey : key ∉ Dc.keys KV := (Dc.look_none key).1 e
    rw [e2] at q4
    refine ⟨?_, fun k => ?_, by rw [q4]; simp [hk.2.2]⟩
    · simp only [Option.isSome_none, Bool.false_eq_true, if_false, Dc.keys, List.map_append, List.map_cons, List.map_nil]
      rw [List.nodup_append]
      exact ⟨hk.1, by simp, fun a ha b hb => by simp at hb; subst hb; intro e'; exact hkey (e' ▸ ha)⟩
    · rw [mem_look (l := Dc.all _), q3]
      simp only [Option.isSome_none, Bool.false_eq_true, if_false, Dc.keys, List.map_append, List.map_cons, List.map_nil, List.mem_append, List.mem_singleton]
      by_cases hkk : k = key
      · simp [hkk]
      · rw [if_neg hkk, ← mem_look]
        simp only [hkk, or_false]
        exact hk.2.1 k
  | some x =>
    rw [e] at hl
    have hkeys : Dc.keys (Dc.alter key v KV) = Dc.keys KV := alter_keys key v KV
    obtain ⟨y, e2⟩ : ∃ y, Dc.look key (Dc.all s) = some y := by cases h' : Dc.look key (Dc.all s) with | none => rw [h'] at hl; cases hl | some y => exact ⟨y, rfl⟩
    rw [e2] at q4
    have hlen : (Dc.alter key v KV).length = KV.length := by simp [Dc.alter]
    refine ⟨by simp only [Option.isSome_some, if_true]; rw [hkeys]; exact hk.1, fun k => ?_, by rw [q4]; simp [hlen, hk.2.2]⟩
    simp only [Option.isSome_some, if_true]
    rw [hkeys, hk.2.1 k, mem_look, mem_look, q3]
    by_cases hkk : k = key
    · simp [hkk, e2]
    · rw [if_neg hkk]
theorem alter_at {l : List (ByteArray × Int)} {p : Nat} {key : ByteArray} {x v : Int} (hn : (Dc.keys l).Nodup) (h : l[p]? = some (key, x)) : l.set p (key, v) = Dc.alter key v l := by
  refine List.ext_getElem? (fun t => ?_)
  have hp := (List.getElem?_eq_some_iff.1 h).1
  unfold Dc.alter
  rw [List.getElem?_set, List.getElem?_map]
  by_cases e : p = t
  · subst e; rw [if_pos rfl, if_pos hp, h]; simp
  · rw [if_neg e]
    cases ht : l[t]? with
    | none => rfl
    | some y =>
      have hne : y.1 ≠ key := fun e' => e (by
        have q1 : (l.map Prod.fst)[p]? = some key := by rw [List.getElem?_map, h]; rfl
        have q2 : (l.map Prod.fst)[t]? = some key := by rw [List.getElem?_map, ht, ← e']; rfl
        exact (List.getElem?_inj (List.getElem?_eq_some_iff.1 q1).1 hn).1 (q1.trans q2.symm))
      show some y = some (if y.1 = key then (y.1, v) else y)
      rw [if_neg hne]
theorem set_old {h : ByteArray → Nat} {s : Dc.St ByteArray V} {key : ByteArray} {v' y : V} (hl : Dc.look key (Dc.all (Dc.step h s)) = some y) : (Dc.set h s key v').1 = Dc.every (Dc.alter key v') (Dc.step h s) := by
  unfold Dc.set; rw [hl]
theorem set_new {h : ByteArray → Nat} {s : Dc.St ByteArray V} {key : ByteArray} {v' : V} (hl : Dc.look key (Dc.all (Dc.step h s)) = none) : (Dc.set h s key v').1 = Dc.lay h (Dc.grow (Dc.all (Dc.step h s)).length (Dc.step h s)) (key, v') := by
  unfold Dc.set; rw [hl]
theorem grow_0 {n : Nat} {s : Dc.St ByteArray V} (h : s.old = []) : Dc.grow n s = { old := List.replicate 4 [], young := [], pos := 0 } := by unfold Dc.grow; rw [h]; rfl
theorem grow_1 {n : Nat} {s : Dc.St ByteArray V} (h : s.old ≠ []) (hy : s.young = []) (hn : s.old.length ≤ n) : Dc.grow n s = { s with young := List.replicate (2 * s.old.length) [], pos := 0 } := by
  unfold Dc.grow; rw [if_neg (by rw [Dc.empty_iff]; exact h), if_pos (by rw [hy]; simp [hn])]
theorem grow_2 {n : Nat} {s : Dc.St ByteArray V} (h : s.old ≠ []) (hn : ¬ (s.young = [] ∧ s.old.length ≤ n)) : Dc.grow n s = s := by
  unfold Dc.grow; rw [if_neg (by rw [Dc.empty_iff]; exact h), if_neg (by rw [Bool.and_eq_true, Dc.empty_iff, decide_eq_true_iff]; exact hn)]
theorem lay_0 {h : ByteArray → Nat} {s : Dc.St ByteArray V} {e : ByteArray × V} (hy : s.young = []) : Dc.lay h s e = { s with old := Dc.push h s.old e } := by unfold Dc.lay; rw [if_pos (by rw [hy]; rfl)]
theorem lay_1 {h : ByteArray → Nat} {s : Dc.St ByteArray V} {e : ByteArray × V} (hy : s.young ≠ []) : Dc.lay h s e = { s with young := Dc.push h s.young e } := by unfold Dc.lay; rw [if_neg (by rw [Dc.empty_iff]; exact hy)]
set_option maxHeartbeats 8000000 in
theorem set_any {h : ByteArray → Nat} {seed N : Nat} (hH : RHashIs seed h) (w : World) (r : Roles) (b : Nat) (s : Dc.St ByteArray V) (KV : List (ByteArray × Int)) (key : ByteArray) (v : Int) (v' : V) (hd : Rdd h N w r b seed s KV) (hN : N + 1 ≤ 2600000000000) (hk : key.size ≤ maxLen) :
    Calls Tryz.prog 43 #[.pointer (some ⟨b, 0, none⟩), .string key, .int .i64 v] w fun e w' => e = .returned (.bool (Dc.look key KV).isNone) ∧ ∃ r', Rdd h (N + 1) w' r' b seed (Dc.set h s key v').1 (kvSet KV key v) ∧ Fr w r w' r' := by
  have MS := keep (hd.step hH (by omega))
  have HNd := keep hd.2.2.1
  have HNb := keep hN
  have HKy := keep hk
  have HLn : Kept (KV.length ≤ N) := hd.few
  have HEnd : Kept (∀ w' r', RD w' r' b seed (Dc.set h s key v').1 (kvSet KV key v) → Fr w r w' r' → ∃ r', Rdd h (N + 1) w' r' b seed (Dc.set h s key v').1 (kvSet KV key v) ∧ Fr w r w' r') := fun w' r' h1 h2 => ⟨r', ⟨h1, okd_set hd.2.1 hk v', kvok_set hd.2.2 hd.2.1.1 key v v'⟩, h2⟩
  clear hd hN hk
  go_enter Tryz.func43, Tryz.ntmps43
  go_wp2_with fail
  refine MS.out.mono ?_
  rintro _ w1 ⟨rfl, r1, hd1, hf1⟩
  obtain ⟨s1, hs1⟩ : ∃ s1, Dc.step h s = s1 := ⟨_, rfl⟩
  rw [hs1] at hd1
  have HS1 := keep hs1
  have MI := keep (index_any key hd1.1 (by have := HLn.out; have := HNb.out; omega))
  have HD := keep hd1
  have HF := keep hf1
  clear MS hd1 hf1 hs1
  go_wp2_with fail
  refine MI.out.mono ?_
  rintro _ w2 ⟨⟨a, rfl, ha⟩, hw⟩
  obtain rfl := hw.symm
  clear MI
  obtain ⟨n, hln⟩ : ∃ n, KV.length = n := ⟨_, rfl⟩
  have HN := keep hln
  have hnN : n ≤ N := by rw [← hln]; exact HLn.out
  have HNN := keep hnN
  obtain ⟨ao, ca, bo, cb, ko, kc, vo, vc, h3, h4, h5, h6, h7⟩ := HD.out.1.parts
  obtain ⟨c0, c1, c2, c3, c4, c5, cf⟩ := six h3
  have hlk := HD.out.2.2.look key
  have HNa : Kept ((Dc.all s1).length = n) := by show (Dc.all s1).length = n; rw [← HD.out.2.2.2.2]; exact hln
  have HO := keep HD.out.2.1
  rw [hln] at c4 c5
  obtain ⟨n0, hn0⟩ : ∃ n, s1.old.length = n := ⟨_, rfl⟩
  obtain ⟨n1, hn1⟩ : ∃ n, s1.young.length = n := ⟨_, rfl⟩
  have HN0 := keep hn0
  have HN1 := keep hn1
  have HB0 : Kept (n0 ≤ 2 * N + 4 ∧ n1 ≤ 2 * N + 4) := by rw [← hn0, ← hn1]; exact HD.out.2.1.2.2.2
  rw [hn0] at c1
  rw [hn1] at c2
  clear hn0 hn1
  rcases ha with ⟨rfl, hne⟩ | ⟨p, x, rfl, hp⟩
  · have hl := look_noK hne
    rw [hl] at hlk
    have hl1 : Dc.look key (Dc.all s1) = none := by cases h' : Dc.look key (Dc.all s1) with | none => rfl | some y => rw [h'] at hlk; cases hlk
    have HL := keep hl
    obtain ⟨gs, hgs⟩ : ∃ g, Dc.grow n s1 = g := ⟨_, rfl⟩
    have HSET : Kept ((Dc.set h s key v').1 = Dc.lay h gs (key, v')) := by
      show (Dc.set h s key v').1 = _
      rw [set_new (by rw [HS1.out]; exact hl1), HS1.out, HNa.out, hgs]
    have HI := keep HO.out.1
    have HFL : Kept (s1.old.flatten.length + s1.young.flatten.length ≤ N) := by
      have e := Dc.all_eq HI.out
      have e2 := HNa.out
      rw [e, List.length_append] at e2
      show _ ≤ N
      have := HNN.out
      omega
    by_cases ho : s1.old = []
    · have hn0e : n0 = 0 := by rw [← HN0.out, ho]; rfl
      have hy : s1.young = [] := Classical.byContradiction fun hh => by have := HI.out.move hh; rw [ho] at this; simp at this
      have hps : s1.pos = 0 := HI.out.rest hy
      obtain ⟨w3, mk, hT, b3, l3⟩ := make_tab (V := V) w1 r1 0 4 (by omega)
      obtain ⟨H, hH'⟩ : ∃ H, w1.heap.size = H := ⟨_, rfl⟩
      obtain ⟨W3, hW3⟩ : ∃ x, w3.setCell ⟨b, 1, none⟩ (.slice (some ⟨H, 0, none⟩) 4 4) = x := ⟨_, rfl⟩
      obtain ⟨t1, t2⟩ := HD.out.1.mk0 (W := W3) (n := 4) hy hps hT b3 l3 (by rw [hH']; exact hW3)
      have hgse : gs = { old := List.replicate 4 [], young := [], pos := 0 } := by rw [← hgs]; exact grow_0 ho
      have RG : Kept (RD W3 (role r1 (.slice (some ⟨w1.heap.size, 0, none⟩) 4 4) (1, 0)) b seed gs KV ∧ Fr w r W3 (role r1 (.slice (some ⟨w1.heap.size, 0, none⟩) 4 4) (1, 0))) := by rw [hgse]; exact ⟨t1, HF.out.trans t2⟩
      obtain ⟨m, hm⟩ : ∃ m, m = 4 := ⟨_, rfl⟩
      have HM : Kept (gs.old.length = m ∧ 0 < m ∧ m ≤ maxLen) := by rw [hgse, hm]; exact ⟨by simp, by omega, by unfold maxLen; omega⟩
      have HG : Kept (gs.young = [] ∧ gs.old.flatten.length ≤ N ∧ True) := by rw [hgse]; exact ⟨rfl, by rw [Dc.flat_rep]; exact Nat.zero_le _, trivial⟩
      rw [hH'] at mk
      have mk' : (Instr.makeSlice 39 (.int .i64 4) (.int .i64 4)).run Tryz.prog w1 = .ok (.slice (some ⟨H, 0, none⟩) 4 4) w3 := mk
      have k1 : w3.cell? ⟨b, 1, none⟩ = some (.slice ao n0 ca) := (b3.cell (p := ⟨b, 1, none⟩) (World.block_lt_of_cell? _ _ c1)).trans c1
      have kf3 : ∀ i, w3.frozen? ⟨b, i, none⟩ = false := fun i => (World.frozen?_of_block (w := w1) (a := ⟨b, i, none⟩) (b3.block b HD.out.1.lt)).trans (cf i)
      have hz : ((n0 : Int) == 0) = true := by rw [hn0e]; rfl
      clear hm c0 c2 c3 c4 c5 cf h3 h4 h5 h6 h7 hl hlk hl1 hne hgs hgse t1 t2 hT b3 l3 mk hy hps ho hn0e
      go_upto_region 13 with fail
      clear mk' k1 kf3 hz c1
      obtain ⟨ao, ca, bo, cb, ko, kc, vo, vc, h3, h4, h5, h6, h7⟩ := RG.out.1.parts
      obtain ⟨c0, c1, c2, c3, c4, c5, cf⟩ := six h3
      rw [HM.out.1] at c1
      obtain ⟨q, hq⟩ : ∃ q, h key % m = q := ⟨_, rfl⟩
      have MP := keep (place_any hH W3 b m ca ao key HKy.out c0 HM.out.2.1 HM.out.2.2)
      rw [hq] at MP
      have hqn : q < m := by rw [← hq]; exact Nat.mod_lt _ HM.out.2.1
      obtain ⟨dd, hdd⟩ : ∃ dd, gs.old[q]? = some dd := ⟨_, List.getElem?_eq_getElem (by rw [HM.out.1]; exact hqn)⟩
      obtain ⟨gy, capy, e1, hrg, hgl⟩ := h4.form (by rw [HM.out.1]; omega)
      have hbo : ao = some ⟨gy, 0, none⟩ := by injection e1
      subst hbo
      obtain ⟨vb, hvb, hcb, _⟩ := h4.at hdd
      have fz := h4.free
      obtain ⟨vbo, vbc, e2, _⟩ := hcb.tx.form
      obtain ⟨dl, hdl⟩ : ∃ n, (Dc.keys dd).length = n := ⟨_, rfl⟩
      have hdb : dl ≤ 8000000000000 := by
        have q2 : dd.length ≤ gs.old.flatten.length := (List.sublist_flatten_of_mem (List.mem_of_getElem? hdd)).length_le
        have q3 := HG.out.2.1
        have q4 := HNN.out
        have q5 := HNb.out
        simp only [Dc.keys, List.length_map] at hdl
        omega
      have mA := ahead_any W3.drew key vb (Dc.keys dd) (hcb.tx.bel (Below.refl _ W3).drew) (by rw [hdl]; exact hdb)
      rw [hdl] at e2
      subst e2
      have MA := keep mA
      have hst : Dc.lay h gs (key, v') = { gs with old := gs.old.set q ((key, v') :: dd) } := by
        rw [lay_0 HG.out.1, push_is (c := dd) (by rw [HM.out.1, hq]; exact hdd), HM.out.1, hq]
      have HNX : Kept (∀ w8 u W9, Mine W3.drew w8 u (key :: Dc.keys dd) → w8.setCell ⟨gy, q, none⟩ u = W9 → (w8.cell? ⟨b, 1, none⟩ = some (.slice (some ⟨gy, 0, none⟩) m ca) ∧ W9.cell? ⟨b, 1, none⟩ = some (.slice (some ⟨gy, 0, none⟩) m ca)) ∧ w8.cell? ⟨gy, q, none⟩ = some (.slice vbo dl vbc) ∧ (∀ k, w8.frozen? ⟨gy, k, none⟩ = false) ∧ ∃ r9, RD W9 r9 b seed (Dc.lay h gs (key, v')) KV ∧ Fr w r W9 r9) := fun w8 u W9 hm hW9 => by
        have hb8 : Below W3.heap.size W3 w8 := (Below.refl _ W3).drew.trans hm.2.2
        have h5' := h4
        rw [HM.out.1] at h5'
        obtain ⟨t1, t2⟩ := RG.out.1.put0 (i := q) (c := dd) (c' := (key, v') :: dd) c1 h5' hdd hb8 hm.1 hm.2.1 hW9
        have hbg : b ≠ gy := fun e => by have h1 := RG.out.1.2.1; rw [e, hrg] at h1; cases h1
        have k2 := (hb8.cell (p := ⟨b, 1, none⟩) (World.block_lt_of_cell? _ _ c1)).trans c1
        exact ⟨⟨k2, by rw [← hW9, World.cell?_setCell_other _ _ _ _ (by intro e; cases e; exact hbg rfl)]; exact k2⟩, (hb8.cell (p := ⟨gy, q, none⟩) (World.block_lt_of_cell? _ _ hvb)).trans hvb, fun k => (World.frozen?_of_block (w := W3) (a := ⟨gy, k, none⟩) (hb8.block gy hgl)).trans (fz k), _, by rw [hst]; exact t1, RG.out.2.trans t2.1⟩
      have SY : Kept (W3.drew.cell? ⟨b, 1, none⟩ = some (.slice (some ⟨gy, 0, none⟩) m ca)) := c1
      have hvb' : W3.drew.cell? ⟨gy, q, none⟩ = some (.slice vbo dl vbc) := hvb
      have q0 : (0 : Int) ≤ (q : Int) := by omega
      have q1 : (q : Int) < (m : Int) := by omega
      have hm0 : decide ((0 : Int) < (m : Int)) = true := decide_eq_true (by have := HM.out.2.1; omega)
      have hm0' : (0 : Int) < (m : Int) := by have := HM.out.2.1; omega
      have hy0 : gs.young.length = 0 := by rw [HG.out.1]; rfl
      rw [hy0] at c2
      have hm1 : decide ((0 : Int) < ((0 : Nat) : Int)) = false := rfl
      clear c0 c3 c4 c5 cf h3 h4 h5 h6 h7 hq hqn hdd hrg hgl hcb fz e1 hdl hdb mA hst
      go_wp2_with fail
      refine MP.out.mono ?_
      rintro _ _ ⟨rfl, hw⟩
      obtain rfl := hw.symm
      clear MP
      go_wp2_with fail
      refine wp_region_held_drew (S := fun W => W.cell? ⟨b, 1, none⟩ = some (.slice (some ⟨gy, 0, none⟩) m ca)) (by kernel_rfl) SY.out (fun hHeld => ?_)
      refine wpAnyH_take (i := 0) (oi := { dst := some 103, op := _, type := _, pos := _, after := _, guard := _ }) (v := ?v1) rfl (by kernel_rfl) (by kernel_rfl) (by kernel_rfl) (fun _ _ _ h => h) (Or.inl ⟨by rfl, ?hy1⟩) (by assumption) ?rest1
      case hy1 => (intro w hSw; obtain p0 := hSw; go_simp; try with_reducible rfl)
      try simp only [Act.put, List.setIfInBounds_toArray, List.set_cons_zero, List.set_cons_succ]
      refine wpAnyH_take (i := 1) (oi := { dst := some 104, op := _, type := _, pos := _, after := _, guard := _ }) (v := ?v2) rfl (by kernel_rfl) (by kernel_rfl) (by kernel_rfl) (fun _ _ _ h => h) (Or.inl ⟨by rfl, ?hy2⟩) (by assumption) ?rest2
      case hy2 => (intro w hSw; obtain p0 := hSw; go_simp; try with_reducible rfl)
      try simp only [Act.put, List.setIfInBounds_toArray, List.set_cons_zero, List.set_cons_succ]
      refine wpAnyH_take (i := 2) (oi := { dst := some 105, op := _, type := _, pos := _, after := _, guard := _ }) (v := ?v3) rfl (by kernel_rfl) (by kernel_rfl) (by kernel_rfl) (fun _ _ _ h => h) (Or.inl ⟨by rfl, ?hy3⟩) (by assumption) ?rest3
      case hy3 => (intro w hSw; obtain p0 := hSw; go_simp; try with_reducible rfl)
      try simp only [Act.put, List.setIfInBounds_toArray, List.set_cons_zero, List.set_cons_succ]
      refine wpAnyH_take (i := 3) (oi := { dst := some 106, op := _, type := _, pos := _, after := _, guard := _ }) (v := (.slice (some ⟨gy, 0, none⟩) m ca)) rfl (by kernel_rfl) (by kernel_rfl) (by kernel_rfl) (fun _ _ _ h => h) (Or.inl ⟨by rfl, ?hy4⟩) (by assumption) ?rest4
      case hy4 => (intro w hSw; obtain p0 := hSw; first | (go_simp; done) | (go_simp; simp [*]; done) | (simp [*]; go_simp; done))
      try simp only [Act.put, List.setIfInBounds_toArray, List.set_cons_zero, List.set_cons_succ]
      refine wpAnyH_take (i := 4) (oi := { dst := some 107, op := _, type := _, pos := _, after := _, guard := _ }) (v := ?v5) rfl (by kernel_rfl) (by kernel_rfl) (by kernel_rfl) (fun _ _ _ h => h) (Or.inl ⟨by rfl, ?hy5⟩) (by assumption) ?rest5
      case hy5 => (intro w hSw; obtain p0 := hSw; go_simp; try with_reducible rfl)
      try simp only [Act.put, List.setIfInBounds_toArray, List.set_cons_zero, List.set_cons_succ]
      refine wpAnyH_take (i := 5) (oi := { dst := some 108, op := _, type := _, pos := _, after := _, guard := _ }) (v := ?v6) rfl (by kernel_rfl) (by kernel_rfl) (by kernel_rfl) (fun _ _ _ h => h) (Or.inl ⟨by rfl, ?hy6⟩) (by assumption) ?rest6
      case hy6 => (intro w hSw; obtain p0 := hSw; go_simp; try with_reducible rfl)
      try simp only [Act.put, List.setIfInBounds_toArray, List.set_cons_zero, List.set_cons_succ]
      refine wpAnyH_take (i := 6) (oi := { dst := some 109, op := _, type := _, pos := _, after := _, guard := _ }) (v := ?v7) rfl (by kernel_rfl) (by kernel_rfl) (by kernel_rfl) (fun _ _ _ h => h) (Or.inl ⟨by rfl, ?hy7⟩) (by assumption) ?rest7
      case hy7 => (intro w hSw; obtain p0 := hSw; go_simp; try with_reducible rfl)
      try simp only [Act.put, List.setIfInBounds_toArray, List.set_cons_zero, List.set_cons_succ]
      refine wpAnyH_take (i := 7) (oi := { dst := some 110, op := _, type := _, pos := _, after := _, guard := _ }) (v := ?v8) rfl (by kernel_rfl) (by kernel_rfl) (by kernel_rfl) (fun _ _ _ h => h) (Or.inl ⟨by rfl, ?hy8⟩) (by assumption) ?rest8
      case hy8 => (intro w hSw; obtain p0 := hSw; go_simp; try with_reducible rfl)
      try simp only [Act.put, List.setIfInBounds_toArray, List.set_cons_zero, List.set_cons_succ]
      refine wpAnyH_take (i := 8) (oi := { dst := some 111, op := _, type := _, pos := _, after := _, guard := _ }) (v := ?v9) rfl (by kernel_rfl) (by kernel_rfl) (by kernel_rfl) (fun _ _ _ h => h) (Or.inl ⟨by rfl, ?hy9⟩) (by assumption) ?rest9
      case hy9 => (intro w hSw; obtain p0 := hSw; go_simp; try with_reducible rfl)
      try simp only [Act.put, List.setIfInBounds_toArray, List.set_cons_zero, List.set_cons_succ]
      refine wpAnyH_take (i := 9) (oi := { dst := some 112, op := _, type := _, pos := _, after := _, guard := _ }) (v := (.slice (some ⟨gy, 0, none⟩) m ca)) rfl (by kernel_rfl) (by kernel_rfl) (by kernel_rfl) (fun _ _ _ h => h) (Or.inl ⟨by rfl, ?hy10⟩) (by assumption) ?rest10
      case hy10 => (intro w hSw; obtain p0 := hSw; first | (go_simp; done) | (go_simp; simp [*]; done) | (simp [*]; go_simp; done))
      try simp only [Act.put, List.setIfInBounds_toArray, List.set_cons_zero, List.set_cons_succ]
      refine wpAnyH_take (i := 10) (oi := { dst := some 113, op := _, type := _, pos := _, after := _, guard := _ }) (v := ?v11) rfl (by kernel_rfl) (by kernel_rfl) (by kernel_rfl) (fun _ _ _ h => h) (Or.inl ⟨by rfl, ?hy11⟩) (by assumption) ?rest11
      case hy11 => (intro w hSw; obtain p0 := hSw; go_simp; try with_reducible rfl)
      try simp only [Act.put, List.setIfInBounds_toArray, List.set_cons_zero, List.set_cons_succ]
      refine wpAnyH_take (i := 11) (oi := { dst := some 114, op := _, type := _, pos := _, after := _, guard := _ }) (v := (.pointer (some ⟨gy, q, none⟩))) rfl (by kernel_rfl) (by kernel_rfl) (by kernel_rfl) (fun _ _ _ h => h) (Or.inl ⟨by rfl, ?hy12⟩) (by assumption) ?rest12
      case hy12 => (intro w hSw; obtain p0 := hSw; first | (go_simp; done) | (go_simp; simp [*]; done) | (simp [*]; go_simp; done))
      try simp only [Act.put, List.setIfInBounds_toArray, List.set_cons_zero, List.set_cons_succ]
      refine wpAnyH_ready (rs := [12]) (by kernel_rfl) (by simp) ?_
      refine AllReadyH.cons (o := { dst := some 115, op := _, type := _, pos := _, after := _, guard := _ }) rfl (fun K hK => ?_) AllReadyH.nil
      go_simp
      refine hK.out _ _ SY.out (fun hHeld => ?_)
      try simp only [Act.put, List.setIfInBounds_toArray, List.set_cons_zero, List.set_cons_succ]
      clear hK
      refine wpAnyH_ready (rs := [13]) (by kernel_rfl) (by simp) ?_
      refine AllReadyH.cons (o := { dst := some 116, op := _, type := _, pos := _, after := _, guard := _ }) rfl (fun K hK => ?_) AllReadyH.nil
      go_simp
      refine MA.out.mono ?_
      rintro _ w8 ⟨u, rfl, hu⟩
      obtain ⟨uo, un, uc, rfl⟩ := mine_slice hu
      obtain ⟨W9, hW9⟩ : ∃ x, w8.setCell ⟨gy, q, none⟩ (.slice uo un uc) = x := ⟨_, rfl⟩
      obtain ⟨⟨y1, y2⟩, y3, y4, r9, y5⟩ := HNX.out w8 _ W9 hu hW9
      have Y1 := keep y1
      have Y2 := keep y2
      have K9 := keep y5
      refine hK.out _ _ Y1.out (fun hHeld => ?_)
      try simp only [Act.put, List.setIfInBounds_toArray, List.set_cons_zero, List.set_cons_succ]
      clear hK MA HNX hu y1 y2 y5 hvb hvb'
      refine wpAnyH_take (i := 14) (oi := { dst := some 117, op := _, type := _, pos := _, after := _, guard := _ }) (v := (.pointer (some ⟨gy, q, none⟩))) rfl (by kernel_rfl) (by kernel_rfl) (by kernel_rfl) (fun _ _ _ h => h) (Or.inl ⟨by rfl, ?hy13⟩) (by assumption) ?rest13
      case hy13 => (intro w hSw; obtain p0 := hSw; first | (go_simp; done) | (go_simp; simp [*]; done) | (simp [*]; go_simp; done))
      try simp only [Act.put, List.setIfInBounds_toArray, List.set_cons_zero, List.set_cons_succ]
      refine wpAnyH_ready (rs := [15]) (by kernel_rfl) (by simp) ?_
      refine AllReadyH.cons (o := { dst := none, op := _, type := _, pos := _, after := _, guard := _ }) rfl (fun K hK => ?_) AllReadyH.nil
      go_simp
      try rw [hW9]
      refine hK.out _ _ Y2.out (fun hHeld => ?_)
      try simp only [Act.put, List.setIfInBounds_toArray, List.set_cons_zero, List.set_cons_succ]
      clear hK y3 y4
      refine wpAnyH_done (by kernel_rfl) ?_ _
      clear hHeld
      obtain ⟨ao9, ca9, bo9, cb9, ko9, kc9, vo9, vc9, g3, _⟩ := K9.out.1.parts
      obtain ⟨_, _, _, _, c4, c5, cf⟩ := six g3
      rw [HN.out] at c4 c5
      obtain ⟨xo, xn, xc, W11, a1, ⟨k4, kf⟩, nx⟩ := K9.out.1.app key v HN.out (by have := HNN.out; have := HNb.out; omega) c4 c5
      obtain ⟨W10, hW10⟩ : ∃ x, W9.alloc (.cells #[.string key] 9) = x := ⟨_, rfl⟩
      obtain ⟨W12, hW12⟩ : ∃ x, W11.setCell ⟨b, 4, none⟩ (.slice xo xn xc) = x := ⟨_, rfl⟩
      obtain ⟨k5, zo, zn, zc, W14, a2, ⟨k6, kf2⟩, nx2⟩ := nx W12 hW12
      obtain ⟨W13, hW13⟩ : ∃ x, W12.alloc (.cells #[.int .i64 v] 3) = x := ⟨_, rfl⟩
      obtain ⟨W15, hW15⟩ : ∃ x, W14.setCell ⟨b, 5, none⟩ (.slice zo zn zc) = x := ⟨_, rfl⟩
      obtain ⟨r15, t15, f15⟩ := nx2 W15 hW15
      rw [hW10] at a1
      rw [hW13] at a2
      have HX : Kept (∃ r', Rdd h (N + 1) W15 r' b seed (Dc.set h s key v').1 (kvSet KV key v) ∧ Fr w r W15 r') := HEnd.out W15 r15 (by
        rw [HSET.out]
        unfold kvSet
        rw [HL.out]
        exact t15) (K9.out.2.trans f15)
      have A1 := keep a1
      have A2 := keep a2
      have k4' : W10.cell? ⟨b, 4, none⟩ = some (.slice ko9 n kc9) := by rw [← hW10, World.cell?_of_block (w := W9) (Below.heap_alloc _ _ _ (World.block_lt_of_cell? _ _ c4))]; exact c4
      clear nx nx2 t15 f15 a1 a2 g3 cf
      go_wp2_with (at_builtin; first | refine wpList_app_run rfl _ _ _ _ rfl _ _ _ rfl rfl A1.out ?_ | refine wpList_app_run rfl _ _ _ _ rfl _ _ _ rfl rfl A2.out ?_)
      go_ret
      exact ⟨by rw [HL.out]; rfl, HX.out⟩
    · by_cases hy : s1.young = []
      · by_cases hnn : n0 ≤ n
        · have hyy := And.intro hy hnn
          clear hy hnn
          have hn0p : 0 < n0 := by rw [← HN0.out]; exact List.length_pos_iff.2 ho
          have hz : ((n0 : Int) == 0) = false := beq_eq_false_iff_ne.2 (by omega)
          have HO0 := keep ho
          have hn1e : n1 = 0 := by rw [← HN1.out, hyy.1]; rfl
          have hz1 : ((n1 : Int) == 0) = true := by rw [hn1e]; rfl
          have hz2 : decide ((n0 : Int) ≤ (n : Int)) = true := decide_eq_true (by have := hyy.2; omega)
          have hz2' : (n0 : Int) ≤ (n : Int) := by have := hyy.2; omega
          have hz2n : decide (n0 ≤ n) = true := decide_eq_true hyy.2
          have hgse : gs = { s1 with young := List.replicate (2 * s1.old.length) [], pos := 0 } := by rw [← hgs]; exact grow_1 ho hyy.1 (by rw [HN0.out]; exact hyy.2)
          have HGS := keep hgse
          obtain ⟨m, hm⟩ : ∃ m, 2 * n0 = m := ⟨_, rfl⟩
          have HMM := keep hm
          have HM : Kept (gs.young.length = m ∧ 0 < m ∧ m ≤ maxLen) := by
            have q1 := HB0.out
            have q2 := HNb.out
            have q3 := hyy.2
            have q4 := HNN.out
            rw [hgse, ← hm]; exact ⟨by simp [HN0.out], by omega, by unfold maxLen; omega⟩
          have HG : Kept (gs.young ≠ [] ∧ True ∧ gs.young.flatten.length ≤ N) := by
            refine ⟨fun e => ?_, trivial, ?_⟩
            · have := HM.out; rw [e] at this; simp at this; omega
            · rw [hgse]; show (List.replicate _ []).flatten.length ≤ N; rw [Dc.flat_rep]; exact Nat.zero_le _
          have hnn := keep hyy.2
          have hw2 : IntKind.i64.wrap (2 * (n0 : Int)) = (m : Int) := by have := HNb.out; have := HNN.out; have := hyy.2; rw [IntKind.wrap_i64]; omega
          clear hgse hm hn1e hyy ho
          clear c0 c3 c5 cf h3 h4 h5 h6 h7 hl hlk hl1 hne hgs
          go_wp2_with fail
          go_quiet (fail)
          obtain ⟨wq, hwq⟩ : ∃ x, w1.drewN nq = x := ⟨_, rfl⟩
          rw [hwq]
          have RQ : Kept (RD wq r1 b seed s1 KV ∧ Fr w r wq r1) := by rw [← hwq]; exact ⟨HD.out.1.drewN nq, HF.out.trans (Fr.of_below (below_drewN (Below.refl _ _) nq))⟩
          clear hwq c1 c2 c4
          obtain ⟨w3, mk, hT, b3, l3⟩ := make_tab (V := V) wq r1 1 m (by have := HNb.out; have := HNN.out; have := hnn.out; have := HMM.out; omega)
          obtain ⟨H, hH'⟩ : ∃ H, wq.heap.size = H := ⟨_, rfl⟩
          obtain ⟨ao, ca, bo, cb, ko, kc, vo, vc, h3, h4, h5, h6, h7⟩ := RQ.out.1.parts
          obtain ⟨c0, c1, c2, c3, c4, c5, cf⟩ := six h3
          rw [HN0.out] at c1
          obtain ⟨W3, hW3⟩ : ∃ x, (w3.setCell ⟨b, 2, none⟩ (.slice (some ⟨H, 0, none⟩) m m)).setCell ⟨b, 3, none⟩ (.int .i64 0) = x := ⟨_, rfl⟩
          obtain ⟨t1, t2⟩ := RQ.out.1.mk1 (W := W3) (n := m) hT b3 l3 (by rw [hH']; exact hW3)
          have RG : Kept (RD W3 (role r1 (.slice (some ⟨wq.heap.size, 0, none⟩) m m) (2, 0)) b seed gs KV ∧ Fr w r W3 (role r1 (.slice (some ⟨wq.heap.size, 0, none⟩) m m) (2, 0))) := by rw [HGS.out, HN0.out, HMM.out]; exact ⟨t1, RQ.out.2.trans t2⟩
          rw [hH'] at mk
          have kk := fun i u (c : wq.cell? ⟨b, i, none⟩ = some u) => (b3.cell (p := ⟨b, i, none⟩) (World.block_lt_of_cell? _ _ c)).trans c
          have k2 := kk 2 _ c2
          have k3 := kk 3 _ c3
          have kf3 : ∀ i, w3.frozen? ⟨b, i, none⟩ = false := fun i => (World.frozen?_of_block (w := wq) (a := ⟨b, i, none⟩) (b3.block b RQ.out.1.lt)).trans (cf i)
          clear c0 c2 c3 c4 c5 cf h3 h4 h5 h6 h7 t1 t2 hT b3 l3 kk
          go_upto_region 13 with fail
          clear mk k2 k3 kf3 hz hz1 hz2 hz2' hz2n c1 hw2
          obtain ⟨ao, ca, bo, cb, ko, kc, vo, vc, h3, h4, h5, h6, h7⟩ := RG.out.1.parts
          obtain ⟨c0, c1, c2, c3, c4, c5, cf⟩ := six h3
          rw [HM.out.1] at c2
          obtain ⟨q, hq⟩ : ∃ q, h key % m = q := ⟨_, rfl⟩
          have MP := keep (place_any hH W3 b m cb bo key HKy.out c0 HM.out.2.1 HM.out.2.2)
          rw [hq] at MP
          have hqn : q < m := by rw [← hq]; exact Nat.mod_lt _ HM.out.2.1
          obtain ⟨dd, hdd⟩ : ∃ dd, gs.young[q]? = some dd := ⟨_, List.getElem?_eq_getElem (by rw [HM.out.1]; exact hqn)⟩
          obtain ⟨gy, capy, e1, hrg, hgl⟩ := h5.form (by rw [HM.out.1]; omega)
          have hbo : bo = some ⟨gy, 0, none⟩ := by injection e1
          subst hbo
          obtain ⟨vb, hvb, hcb, _⟩ := h5.at hdd
          have fz := h5.free
          obtain ⟨vbo, vbc, e2, _⟩ := hcb.tx.form
          obtain ⟨dl, hdl⟩ : ∃ n, (Dc.keys dd).length = n := ⟨_, rfl⟩
          have hdb : dl ≤ 8000000000000 := by
            have q2 : dd.length ≤ gs.young.flatten.length := (List.sublist_flatten_of_mem (List.mem_of_getElem? hdd)).length_le
            have q3 := HG.out.2.2
            have q4 := HNN.out
            have q5 := HNb.out
            simp only [Dc.keys, List.length_map] at hdl
            omega
          have mA := ahead_any W3.drew key vb (Dc.keys dd) (hcb.tx.bel (Below.refl _ W3).drew) (by rw [hdl]; exact hdb)
          rw [hdl] at e2
          subst e2
          have MA := keep mA
          have hst : Dc.lay h gs (key, v') = { gs with young := gs.young.set q ((key, v') :: dd) } := by
            rw [lay_1 HG.out.1, push_is (c := dd) (by rw [HM.out.1, hq]; exact hdd), HM.out.1, hq]
          have HNX : Kept (∀ w8 u W9, Mine W3.drew w8 u (key :: Dc.keys dd) → w8.setCell ⟨gy, q, none⟩ u = W9 → (w8.cell? ⟨b, 2, none⟩ = some (.slice (some ⟨gy, 0, none⟩) m cb) ∧ W9.cell? ⟨b, 2, none⟩ = some (.slice (some ⟨gy, 0, none⟩) m cb)) ∧ w8.cell? ⟨gy, q, none⟩ = some (.slice vbo dl vbc) ∧ (∀ k, w8.frozen? ⟨gy, k, none⟩ = false) ∧ ∃ r9, RD W9 r9 b seed (Dc.lay h gs (key, v')) KV ∧ Fr w r W9 r9) := fun w8 u W9 hm hW9 => by
            have hb8 : Below W3.heap.size W3 w8 := (Below.refl _ W3).drew.trans hm.2.2
            have h5' := h5
            rw [HM.out.1] at h5'
            obtain ⟨t1, t2⟩ := RG.out.1.put1 (i := q) (c := dd) (c' := (key, v') :: dd) c2 h5' hdd hb8 hm.1 hm.2.1 hW9
            have hbg : b ≠ gy := fun e => by have h1 := RG.out.1.2.1; rw [e, hrg] at h1; cases h1
            have k2 := (hb8.cell (p := ⟨b, 2, none⟩) (World.block_lt_of_cell? _ _ c2)).trans c2
            exact ⟨⟨k2, by rw [← hW9, World.cell?_setCell_other _ _ _ _ (by intro e; cases e; exact hbg rfl)]; exact k2⟩, (hb8.cell (p := ⟨gy, q, none⟩) (World.block_lt_of_cell? _ _ hvb)).trans hvb, fun k => (World.frozen?_of_block (w := W3) (a := ⟨gy, k, none⟩) (hb8.block gy hgl)).trans (fz k), _, by rw [hst]; exact t1, RG.out.2.trans t2.1⟩
          have SY : Kept (W3.drew.cell? ⟨b, 2, none⟩ = some (.slice (some ⟨gy, 0, none⟩) m cb)) := c2
          have hvb' : W3.drew.cell? ⟨gy, q, none⟩ = some (.slice vbo dl vbc) := hvb
          have q0 : (0 : Int) ≤ (q : Int) := by omega
          have q1 : (q : Int) < (m : Int) := by omega
          have hm0 : decide ((0 : Int) < (m : Int)) = true := decide_eq_true (by have := HM.out.2.1; omega)
          have hm0' : (0 : Int) < (m : Int) := by have := HM.out.2.1; omega
          clear c1 c0 c3 c4 c5 cf h3 h4 h5 h6 h7 hq hqn hdd hrg hgl hcb fz e1 hdl hdb mA hst
          go_wp2_with fail
          refine MP.out.mono ?_
          rintro _ _ ⟨rfl, hw⟩
          obtain rfl := hw.symm
          clear MP
          go_wp2_with fail
          refine wp_region_held_drew (S := fun W => W.cell? ⟨b, 2, none⟩ = some (.slice (some ⟨gy, 0, none⟩) m cb)) (by kernel_rfl) SY.out (fun hHeld => ?_)
          refine wpAnyH_take (i := 0) (oi := { dst := some 81, op := _, type := _, pos := _, after := _, guard := _ }) (v := ?v14) rfl (by kernel_rfl) (by kernel_rfl) (by kernel_rfl) (fun _ _ _ h => h) (Or.inl ⟨by rfl, ?hy14⟩) (by assumption) ?rest14
          case hy14 => (intro w hSw; obtain p0 := hSw; go_simp; try with_reducible rfl)
          try simp only [Act.put, List.setIfInBounds_toArray, List.set_cons_zero, List.set_cons_succ]
          refine wpAnyH_take (i := 1) (oi := { dst := some 82, op := _, type := _, pos := _, after := _, guard := _ }) (v := ?v15) rfl (by kernel_rfl) (by kernel_rfl) (by kernel_rfl) (fun _ _ _ h => h) (Or.inl ⟨by rfl, ?hy15⟩) (by assumption) ?rest15
          case hy15 => (intro w hSw; obtain p0 := hSw; go_simp; try with_reducible rfl)
          try simp only [Act.put, List.setIfInBounds_toArray, List.set_cons_zero, List.set_cons_succ]
          refine wpAnyH_take (i := 2) (oi := { dst := some 83, op := _, type := _, pos := _, after := _, guard := _ }) (v := ?v16) rfl (by kernel_rfl) (by kernel_rfl) (by kernel_rfl) (fun _ _ _ h => h) (Or.inl ⟨by rfl, ?hy16⟩) (by assumption) ?rest16
          case hy16 => (intro w hSw; obtain p0 := hSw; go_simp; try with_reducible rfl)
          try simp only [Act.put, List.setIfInBounds_toArray, List.set_cons_zero, List.set_cons_succ]
          refine wpAnyH_take (i := 3) (oi := { dst := some 84, op := _, type := _, pos := _, after := _, guard := _ }) (v := (.slice (some ⟨gy, 0, none⟩) m cb)) rfl (by kernel_rfl) (by kernel_rfl) (by kernel_rfl) (fun _ _ _ h => h) (Or.inl ⟨by rfl, ?hy17⟩) (by assumption) ?rest17
          case hy17 => (intro w hSw; obtain p0 := hSw; first | (go_simp; done) | (go_simp; simp [*]; done) | (simp [*]; go_simp; done))
          try simp only [Act.put, List.setIfInBounds_toArray, List.set_cons_zero, List.set_cons_succ]
          refine wpAnyH_take (i := 4) (oi := { dst := some 85, op := _, type := _, pos := _, after := _, guard := _ }) (v := ?v18) rfl (by kernel_rfl) (by kernel_rfl) (by kernel_rfl) (fun _ _ _ h => h) (Or.inl ⟨by rfl, ?hy18⟩) (by assumption) ?rest18
          case hy18 => (intro w hSw; obtain p0 := hSw; go_simp; try with_reducible rfl)
          try simp only [Act.put, List.setIfInBounds_toArray, List.set_cons_zero, List.set_cons_succ]
          refine wpAnyH_take (i := 5) (oi := { dst := some 86, op := _, type := _, pos := _, after := _, guard := _ }) (v := ?v19) rfl (by kernel_rfl) (by kernel_rfl) (by kernel_rfl) (fun _ _ _ h => h) (Or.inl ⟨by rfl, ?hy19⟩) (by assumption) ?rest19
          case hy19 => (intro w hSw; obtain p0 := hSw; go_simp; try with_reducible rfl)
          try simp only [Act.put, List.setIfInBounds_toArray, List.set_cons_zero, List.set_cons_succ]
          refine wpAnyH_take (i := 6) (oi := { dst := some 87, op := _, type := _, pos := _, after := _, guard := _ }) (v := ?v20) rfl (by kernel_rfl) (by kernel_rfl) (by kernel_rfl) (fun _ _ _ h => h) (Or.inl ⟨by rfl, ?hy20⟩) (by assumption) ?rest20
          case hy20 => (intro w hSw; obtain p0 := hSw; go_simp; try with_reducible rfl)
          try simp only [Act.put, List.setIfInBounds_toArray, List.set_cons_zero, List.set_cons_succ]
          refine wpAnyH_take (i := 7) (oi := { dst := some 88, op := _, type := _, pos := _, after := _, guard := _ }) (v := ?v21) rfl (by kernel_rfl) (by kernel_rfl) (by kernel_rfl) (fun _ _ _ h => h) (Or.inl ⟨by rfl, ?hy21⟩) (by assumption) ?rest21
          case hy21 => (intro w hSw; obtain p0 := hSw; go_simp; try with_reducible rfl)
          try simp only [Act.put, List.setIfInBounds_toArray, List.set_cons_zero, List.set_cons_succ]
          refine wpAnyH_take (i := 8) (oi := { dst := some 89, op := _, type := _, pos := _, after := _, guard := _ }) (v := ?v22) rfl (by kernel_rfl) (by kernel_rfl) (by kernel_rfl) (fun _ _ _ h => h) (Or.inl ⟨by rfl, ?hy22⟩) (by assumption) ?rest22
          case hy22 => (intro w hSw; obtain p0 := hSw; go_simp; try with_reducible rfl)
          try simp only [Act.put, List.setIfInBounds_toArray, List.set_cons_zero, List.set_cons_succ]
          refine wpAnyH_take (i := 9) (oi := { dst := some 90, op := _, type := _, pos := _, after := _, guard := _ }) (v := (.slice (some ⟨gy, 0, none⟩) m cb)) rfl (by kernel_rfl) (by kernel_rfl) (by kernel_rfl) (fun _ _ _ h => h) (Or.inl ⟨by rfl, ?hy23⟩) (by assumption) ?rest23
          case hy23 => (intro w hSw; obtain p0 := hSw; first | (go_simp; done) | (go_simp; simp [*]; done) | (simp [*]; go_simp; done))
          try simp only [Act.put, List.setIfInBounds_toArray, List.set_cons_zero, List.set_cons_succ]
          refine wpAnyH_take (i := 10) (oi := { dst := some 91, op := _, type := _, pos := _, after := _, guard := _ }) (v := ?v24) rfl (by kernel_rfl) (by kernel_rfl) (by kernel_rfl) (fun _ _ _ h => h) (Or.inl ⟨by rfl, ?hy24⟩) (by assumption) ?rest24
          case hy24 => (intro w hSw; obtain p0 := hSw; go_simp; try with_reducible rfl)
          try simp only [Act.put, List.setIfInBounds_toArray, List.set_cons_zero, List.set_cons_succ]
          refine wpAnyH_take (i := 11) (oi := { dst := some 92, op := _, type := _, pos := _, after := _, guard := _ }) (v := (.pointer (some ⟨gy, q, none⟩))) rfl (by kernel_rfl) (by kernel_rfl) (by kernel_rfl) (fun _ _ _ h => h) (Or.inl ⟨by rfl, ?hy25⟩) (by assumption) ?rest25
          case hy25 => (intro w hSw; obtain p0 := hSw; first | (go_simp; done) | (go_simp; simp [*]; done) | (simp [*]; go_simp; done))
          try simp only [Act.put, List.setIfInBounds_toArray, List.set_cons_zero, List.set_cons_succ]
          refine wpAnyH_ready (rs := [12]) (by kernel_rfl) (by simp) ?_
          refine AllReadyH.cons (o := { dst := some 93, op := _, type := _, pos := _, after := _, guard := _ }) rfl (fun K hK => ?_) AllReadyH.nil
          go_simp
          refine hK.out _ _ SY.out (fun hHeld => ?_)
          try simp only [Act.put, List.setIfInBounds_toArray, List.set_cons_zero, List.set_cons_succ]
          clear hK
          refine wpAnyH_ready (rs := [13]) (by kernel_rfl) (by simp) ?_
          refine AllReadyH.cons (o := { dst := some 94, op := _, type := _, pos := _, after := _, guard := _ }) rfl (fun K hK => ?_) AllReadyH.nil
          go_simp
          refine MA.out.mono ?_
          rintro _ w8 ⟨u, rfl, hu⟩
          obtain ⟨uo, un, uc, rfl⟩ := mine_slice hu
          obtain ⟨W9, hW9⟩ : ∃ x, w8.setCell ⟨gy, q, none⟩ (.slice uo un uc) = x := ⟨_, rfl⟩
          obtain ⟨⟨y1, y2⟩, y3, y4, r9, y5⟩ := HNX.out w8 _ W9 hu hW9
          have Y1 := keep y1
          have Y2 := keep y2
          have K9 := keep y5
          refine hK.out _ _ Y1.out (fun hHeld => ?_)
          try simp only [Act.put, List.setIfInBounds_toArray, List.set_cons_zero, List.set_cons_succ]
          clear hK MA HNX hu y1 y2 y5 hvb hvb'
          refine wpAnyH_take (i := 14) (oi := { dst := some 95, op := _, type := _, pos := _, after := _, guard := _ }) (v := (.pointer (some ⟨gy, q, none⟩))) rfl (by kernel_rfl) (by kernel_rfl) (by kernel_rfl) (fun _ _ _ h => h) (Or.inl ⟨by rfl, ?hy26⟩) (by assumption) ?rest26
          case hy26 => (intro w hSw; obtain p0 := hSw; first | (go_simp; done) | (go_simp; simp [*]; done) | (simp [*]; go_simp; done))
          try simp only [Act.put, List.setIfInBounds_toArray, List.set_cons_zero, List.set_cons_succ]
          refine wpAnyH_ready (rs := [15]) (by kernel_rfl) (by simp) ?_
          refine AllReadyH.cons (o := { dst := none, op := _, type := _, pos := _, after := _, guard := _ }) rfl (fun K hK => ?_) AllReadyH.nil
          go_simp
          try rw [hW9]
          refine hK.out _ _ Y2.out (fun hHeld => ?_)
          try simp only [Act.put, List.setIfInBounds_toArray, List.set_cons_zero, List.set_cons_succ]
          clear hK y3 y4
          refine wpAnyH_done (by kernel_rfl) ?_ _
          clear hHeld
          obtain ⟨ao9, ca9, bo9, cb9, ko9, kc9, vo9, vc9, g3, _⟩ := K9.out.1.parts
          obtain ⟨_, _, _, _, c4, c5, cf⟩ := six g3
          rw [HN.out] at c4 c5
          obtain ⟨xo, xn, xc, W11, a1, ⟨k4, kf⟩, nx⟩ := K9.out.1.app key v HN.out (by have := HNN.out; have := HNb.out; omega) c4 c5
          obtain ⟨W10, hW10⟩ : ∃ x, W9.alloc (.cells #[.string key] 9) = x := ⟨_, rfl⟩
          obtain ⟨W12, hW12⟩ : ∃ x, W11.setCell ⟨b, 4, none⟩ (.slice xo xn xc) = x := ⟨_, rfl⟩
          obtain ⟨k5, zo, zn, zc, W14, a2, ⟨k6, kf2⟩, nx2⟩ := nx W12 hW12
          obtain ⟨W13, hW13⟩ : ∃ x, W12.alloc (.cells #[.int .i64 v] 3) = x := ⟨_, rfl⟩
          obtain ⟨W15, hW15⟩ : ∃ x, W14.setCell ⟨b, 5, none⟩ (.slice zo zn zc) = x := ⟨_, rfl⟩
          obtain ⟨r15, t15, f15⟩ := nx2 W15 hW15
          rw [hW10] at a1
          rw [hW13] at a2
          have HX : Kept (∃ r', Rdd h (N + 1) W15 r' b seed (Dc.set h s key v').1 (kvSet KV key v) ∧ Fr w r W15 r') := HEnd.out W15 r15 (by
            rw [HSET.out]
            unfold kvSet
            rw [HL.out]
            exact t15) (K9.out.2.trans f15)
          have A1 := keep a1
          have A2 := keep a2
          have k4' : W10.cell? ⟨b, 4, none⟩ = some (.slice ko9 n kc9) := by rw [← hW10, World.cell?_of_block (w := W9) (Below.heap_alloc _ _ _ (World.block_lt_of_cell? _ _ c4))]; exact c4
          clear nx nx2 t15 f15 a1 a2 g3 cf
          go_wp2_with (at_builtin; first | refine wpList_app_run rfl _ _ _ _ rfl _ _ _ rfl rfl A1.out ?_ | refine wpList_app_run rfl _ _ _ _ rfl _ _ _ rfl rfl A2.out ?_)
          go_ret
          exact ⟨by rw [HL.out]; rfl, HX.out⟩
        · have hn0p : 0 < n0 := by rw [← HN0.out]; exact List.length_pos_iff.2 ho
          have hz : ((n0 : Int) == 0) = false := beq_eq_false_iff_ne.2 (by omega)
          have HO0 := keep ho
          have hn1e : n1 = 0 := by rw [← HN1.out, hy]; rfl
          have hz1 : ((n1 : Int) == 0) = true := by rw [hn1e]; rfl
          have hz2 : decide ((n0 : Int) ≤ (n : Int)) = false := decide_eq_false (by omega)
          have hz2n : decide (n0 ≤ n) = false := decide_eq_false hnn
          have hgse : gs = s1 := by rw [← hgs]; exact grow_2 ho (fun e => hnn (by have := e.2; rw [HN0.out] at this; exact this))
          subst hgse
          obtain ⟨m, hm⟩ : ∃ m, n0 = m := ⟨_, rfl⟩
          subst hm
          have HM : Kept (gs.old.length = n0 ∧ 0 < n0 ∧ n0 ≤ maxLen) := ⟨HN0.out, hn0p, by have := HB0.out; have := HNb.out; unfold maxLen; omega⟩
          have HG : Kept (gs.young = [] ∧ gs.old.flatten.length ≤ N ∧ True) := ⟨hy, by have := HFL.out; omega, trivial⟩
          clear hn1e hy ho hnn
          clear c0 c3 c5 cf h3 h4 h5 h6 h7 hl hlk hl1 hne hgs
          go_wp2_with fail
          go_quiet (fail)
          obtain ⟨wq, hwq⟩ : ∃ x, w1.drewN nq = x := ⟨_, rfl⟩
          rw [hwq]
          have RQ : Kept (RD wq r1 b seed gs KV ∧ Fr w r wq r1) := by rw [← hwq]; exact ⟨HD.out.1.drewN nq, HF.out.trans (Fr.of_below (below_drewN (Below.refl _ _) nq))⟩
          clear hwq c1 c2 c4
          obtain ⟨ao, ca, bo, cb, ko, kc, vo, vc, h3, h4, h5, h6, h7⟩ := RQ.out.1.parts
          obtain ⟨c0, c1, c2, c3, c4, c5, cf⟩ := six h3
          rw [show gs.young.length = 0 by rw [HG.out.1]; rfl] at c2
          clear c0 c1 c3 c4 c5 cf h3 h4 h5 h6 h7
          go_upto_region 13 with fail
          clear hz hz1 hz2 hz2n c2
          obtain ⟨ao, ca, bo, cb, ko, kc, vo, vc, h3, h4, h5, h6, h7⟩ := RQ.out.1.parts
          obtain ⟨c0, c1, c2, c3, c4, c5, cf⟩ := six h3
          rw [HM.out.1] at c1
          obtain ⟨q, hq⟩ : ∃ q, h key % n0 = q := ⟨_, rfl⟩
          have MP := keep (place_any hH wq b n0 ca ao key HKy.out c0 HM.out.2.1 HM.out.2.2)
          rw [hq] at MP
          have hqn : q < n0 := by rw [← hq]; exact Nat.mod_lt _ HM.out.2.1
          obtain ⟨dd, hdd⟩ : ∃ dd, gs.old[q]? = some dd := ⟨_, List.getElem?_eq_getElem (by rw [HM.out.1]; exact hqn)⟩
          obtain ⟨gy, capy, e1, hrg, hgl⟩ := h4.form (by rw [HM.out.1]; omega)
          have hbo : ao = some ⟨gy, 0, none⟩ := by injection e1
          subst hbo
          obtain ⟨vb, hvb, hcb, _⟩ := h4.at hdd
          have fz := h4.free
          obtain ⟨vbo, vbc, e2, _⟩ := hcb.tx.form
          obtain ⟨dl, hdl⟩ : ∃ n, (Dc.keys dd).length = n := ⟨_, rfl⟩
          have hdb : dl ≤ 8000000000000 := by
            have q2 : dd.length ≤ gs.old.flatten.length := (List.sublist_flatten_of_mem (List.mem_of_getElem? hdd)).length_le
            have q3 := HG.out.2.1
            have q4 := HNN.out
            have q5 := HNb.out
            simp only [Dc.keys, List.length_map] at hdl
            omega
          have mA := ahead_any wq.drew key vb (Dc.keys dd) (hcb.tx.bel (Below.refl _ wq).drew) (by rw [hdl]; exact hdb)
          rw [hdl] at e2
          subst e2
          have MA := keep mA
          have hst : Dc.lay h gs (key, v') = { gs with old := gs.old.set q ((key, v') :: dd) } := by
            rw [lay_0 HG.out.1, push_is (c := dd) (by rw [HM.out.1, hq]; exact hdd), HM.out.1, hq]
          have HNX : Kept (∀ w8 u W9, Mine wq.drew w8 u (key :: Dc.keys dd) → w8.setCell ⟨gy, q, none⟩ u = W9 → (w8.cell? ⟨b, 1, none⟩ = some (.slice (some ⟨gy, 0, none⟩) n0 ca) ∧ W9.cell? ⟨b, 1, none⟩ = some (.slice (some ⟨gy, 0, none⟩) n0 ca)) ∧ w8.cell? ⟨gy, q, none⟩ = some (.slice vbo dl vbc) ∧ (∀ k, w8.frozen? ⟨gy, k, none⟩ = false) ∧ ∃ r9, RD W9 r9 b seed (Dc.lay h gs (key, v')) KV ∧ Fr w r W9 r9) := fun w8 u W9 hm hW9 => by
            have hb8 : Below wq.heap.size wq w8 := (Below.refl _ wq).drew.trans hm.2.2
            have h5' := h4
            rw [HM.out.1] at h5'
            obtain ⟨t1, t2⟩ := RQ.out.1.put0 (i := q) (c := dd) (c' := (key, v') :: dd) c1 h5' hdd hb8 hm.1 hm.2.1 hW9
            have hbg : b ≠ gy := fun e => by have h1 := RQ.out.1.2.1; rw [e, hrg] at h1; cases h1
            have k2 := (hb8.cell (p := ⟨b, 1, none⟩) (World.block_lt_of_cell? _ _ c1)).trans c1
            exact ⟨⟨k2, by rw [← hW9, World.cell?_setCell_other _ _ _ _ (by intro e; cases e; exact hbg rfl)]; exact k2⟩, (hb8.cell (p := ⟨gy, q, none⟩) (World.block_lt_of_cell? _ _ hvb)).trans hvb, fun k => (World.frozen?_of_block (w := wq) (a := ⟨gy, k, none⟩) (hb8.block gy hgl)).trans (fz k), _, by rw [hst]; exact t1, RQ.out.2.trans t2.1⟩
          have SY : Kept (wq.drew.cell? ⟨b, 1, none⟩ = some (.slice (some ⟨gy, 0, none⟩) n0 ca)) := c1
          have hvb' : wq.drew.cell? ⟨gy, q, none⟩ = some (.slice vbo dl vbc) := hvb
          have q0 : (0 : Int) ≤ (q : Int) := by omega
          have q1 : (q : Int) < (n0 : Int) := by omega
          have hm0 : decide ((0 : Int) < (n0 : Int)) = true := decide_eq_true (by have := HM.out.2.1; omega)
          have hm0' : (0 : Int) < (n0 : Int) := by have := HM.out.2.1; omega
          have hy0 : gs.young.length = 0 := by rw [HG.out.1]; rfl
          rw [hy0] at c2
          have hm1 : decide ((0 : Int) < ((0 : Nat) : Int)) = false := rfl
          clear c0 c3 c4 c5 cf h3 h4 h5 h6 h7 hq hqn hdd hrg hgl hcb fz e1 hdl hdb mA hst
          go_wp2_with fail
          refine MP.out.mono ?_
          rintro _ _ ⟨rfl, hw⟩
          obtain rfl := hw.symm
          clear MP
          go_wp2_with fail
          refine wp_region_held_drew (S := fun W => W.cell? ⟨b, 1, none⟩ = some (.slice (some ⟨gy, 0, none⟩) n0 ca)) (by kernel_rfl) SY.out (fun hHeld => ?_)
          refine wpAnyH_take (i := 0) (oi := { dst := some 103, op := _, type := _, pos := _, after := _, guard := _ }) (v := ?v27) rfl (by kernel_rfl) (by kernel_rfl) (by kernel_rfl) (fun _ _ _ h => h) (Or.inl ⟨by rfl, ?hy27⟩) (by assumption) ?rest27
          case hy27 => (intro w hSw; obtain p0 := hSw; go_simp; try with_reducible rfl)
          try simp only [Act.put, List.setIfInBounds_toArray, List.set_cons_zero, List.set_cons_succ]
          refine wpAnyH_take (i := 1) (oi := { dst := some 104, op := _, type := _, pos := _, after := _, guard := _ }) (v := ?v28) rfl (by kernel_rfl) (by kernel_rfl) (by kernel_rfl) (fun _ _ _ h => h) (Or.inl ⟨by rfl, ?hy28⟩) (by assumption) ?rest28
          case hy28 => (intro w hSw; obtain p0 := hSw; go_simp; try with_reducible rfl)
          try simp only [Act.put, List.setIfInBounds_toArray, List.set_cons_zero, List.set_cons_succ]
          refine wpAnyH_take (i := 2) (oi := { dst := some 105, op := _, type := _, pos := _, after := _, guard := _ }) (v := ?v29) rfl (by kernel_rfl) (by kernel_rfl) (by kernel_rfl) (fun _ _ _ h => h) (Or.inl ⟨by rfl, ?hy29⟩) (by assumption) ?rest29
          case hy29 => (intro w hSw; obtain p0 := hSw; go_simp; try with_reducible rfl)
          try simp only [Act.put, List.setIfInBounds_toArray, List.set_cons_zero, List.set_cons_succ]
          refine wpAnyH_take (i := 3) (oi := { dst := some 106, op := _, type := _, pos := _, after := _, guard := _ }) (v := (.slice (some ⟨gy, 0, none⟩) n0 ca)) rfl (by kernel_rfl) (by kernel_rfl) (by kernel_rfl) (fun _ _ _ h => h) (Or.inl ⟨by rfl, ?hy30⟩) (by assumption) ?rest30
          case hy30 => (intro w hSw; obtain p0 := hSw; first | (go_simp; done) | (go_simp; simp [*]; done) | (simp [*]; go_simp; done))
          try simp only [Act.put, List.setIfInBounds_toArray, List.set_cons_zero, List.set_cons_succ]
          refine wpAnyH_take (i := 4) (oi := { dst := some 107, op := _, type := _, pos := _, after := _, guard := _ }) (v := ?v31) rfl (by kernel_rfl) (by kernel_rfl) (by kernel_rfl) (fun _ _ _ h => h) (Or.inl ⟨by rfl, ?hy31⟩) (by assumption) ?rest31
          case hy31 => (intro w hSw; obtain p0 := hSw; go_simp; try with_reducible rfl)
          try simp only [Act.put, List.setIfInBounds_toArray, List.set_cons_zero, List.set_cons_succ]
          refine wpAnyH_take (i := 5) (oi := { dst := some 108, op := _, type := _, pos := _, after := _, guard := _ }) (v := ?v32) rfl (by kernel_rfl) (by kernel_rfl) (by kernel_rfl) (fun _ _ _ h => h) (Or.inl ⟨by rfl, ?hy32⟩) (by assumption) ?rest32
          case hy32 => (intro w hSw; obtain p0 := hSw; go_simp; try with_reducible rfl)
          try simp only [Act.put, List.setIfInBounds_toArray, List.set_cons_zero, List.set_cons_succ]
          refine wpAnyH_take (i := 6) (oi := { dst := some 109, op := _, type := _, pos := _, after := _, guard := _ }) (v := ?v33) rfl (by kernel_rfl) (by kernel_rfl) (by kernel_rfl) (fun _ _ _ h => h) (Or.inl ⟨by rfl, ?hy33⟩) (by assumption) ?rest33
          case hy33 => (intro w hSw; obtain p0 := hSw; go_simp; try with_reducible rfl)
          try simp only [Act.put, List.setIfInBounds_toArray, List.set_cons_zero, List.set_cons_succ]
          refine wpAnyH_take (i := 7) (oi := { dst := some 110, op := _, type := _, pos := _, after := _, guard := _ }) (v := ?v34) rfl (by kernel_rfl) (by kernel_rfl) (by kernel_rfl) (fun _ _ _ h => h) (Or.inl ⟨by rfl, ?hy34⟩) (by assumption) ?rest34
          case hy34 => (intro w hSw; obtain p0 := hSw; go_simp; try with_reducible rfl)
          try simp only [Act.put, List.setIfInBounds_toArray, List.set_cons_zero, List.set_cons_succ]
          refine wpAnyH_take (i := 8) (oi := { dst := some 111, op := _, type := _, pos := _, after := _, guard := _ }) (v := ?v35) rfl (by kernel_rfl) (by kernel_rfl) (by kernel_rfl) (fun _ _ _ h => h) (Or.inl ⟨by rfl, ?hy35⟩) (by assumption) ?rest35
          case hy35 => (intro w hSw; obtain p0 := hSw; go_simp; try with_reducible rfl)
          try simp only [Act.put, List.setIfInBounds_toArray, List.set_cons_zero, List.set_cons_succ]
          refine wpAnyH_take (i := 9) (oi := { dst := some 112, op := _, type := _, pos := _, after := _, guard := _ }) (v := (.slice (some ⟨gy, 0, none⟩) n0 ca)) rfl (by kernel_rfl) (by kernel_rfl) (by kernel_rfl) (fun _ _ _ h => h) (Or.inl ⟨by rfl, ?hy36⟩) (by assumption) ?rest36
          case hy36 => (intro w hSw; obtain p0 := hSw; first | (go_simp; done) | (go_simp; simp [*]; done) | (simp [*]; go_simp; done))
          try simp only [Act.put, List.setIfInBounds_toArray, List.set_cons_zero, List.set_cons_succ]
          refine wpAnyH_take (i := 10) (oi := { dst := some 113, op := _, type := _, pos := _, after := _, guard := _ }) (v := ?v37) rfl (by kernel_rfl) (by kernel_rfl) (by kernel_rfl) (fun _ _ _ h => h) (Or.inl ⟨by rfl, ?hy37⟩) (by assumption) ?rest37
          case hy37 => (intro w hSw; obtain p0 := hSw; go_simp; try with_reducible rfl)
          try simp only [Act.put, List.setIfInBounds_toArray, List.set_cons_zero, List.set_cons_succ]
          refine wpAnyH_take (i := 11) (oi := { dst := some 114, op := _, type := _, pos := _, after := _, guard := _ }) (v := (.pointer (some ⟨gy, q, none⟩))) rfl (by kernel_rfl) (by kernel_rfl) (by kernel_rfl) (fun _ _ _ h => h) (Or.inl ⟨by rfl, ?hy38⟩) (by assumption) ?rest38
          case hy38 => (intro w hSw; obtain p0 := hSw; first | (go_simp; done) | (go_simp; simp [*]; done) | (simp [*]; go_simp; done))
          try simp only [Act.put, List.setIfInBounds_toArray, List.set_cons_zero, List.set_cons_succ]
          refine wpAnyH_ready (rs := [12]) (by kernel_rfl) (by simp) ?_
          refine AllReadyH.cons (o := { dst := some 115, op := _, type := _, pos := _, after := _, guard := _ }) rfl (fun K hK => ?_) AllReadyH.nil
          go_simp
          refine hK.out _ _ SY.out (fun hHeld => ?_)
          try simp only [Act.put, List.setIfInBounds_toArray, List.set_cons_zero, List.set_cons_succ]
          clear hK
          refine wpAnyH_ready (rs := [13]) (by kernel_rfl) (by simp) ?_
          refine AllReadyH.cons (o := { dst := some 116, op := _, type := _, pos := _, after := _, guard := _ }) rfl (fun K hK => ?_) AllReadyH.nil
          go_simp
          refine MA.out.mono ?_
          rintro _ w8 ⟨u, rfl, hu⟩
          obtain ⟨uo, un, uc, rfl⟩ := mine_slice hu
          obtain ⟨W9, hW9⟩ : ∃ x, w8.setCell ⟨gy, q, none⟩ (.slice uo un uc) = x := ⟨_, rfl⟩
          obtain ⟨⟨y1, y2⟩, y3, y4, r9, y5⟩ := HNX.out w8 _ W9 hu hW9
          have Y1 := keep y1
          have Y2 := keep y2
          have K9 := keep y5
          refine hK.out _ _ Y1.out (fun hHeld => ?_)
          try simp only [Act.put, List.setIfInBounds_toArray, List.set_cons_zero, List.set_cons_succ]
          clear hK MA HNX hu y1 y2 y5 hvb hvb'
          refine wpAnyH_take (i := 14) (oi := { dst := some 117, op := _, type := _, pos := _, after := _, guard := _ }) (v := (.pointer (some ⟨gy, q, none⟩))) rfl (by kernel_rfl) (by kernel_rfl) (by kernel_rfl) (fun _ _ _ h => h) (Or.inl ⟨by rfl, ?hy39⟩) (by assumption) ?rest39
          case hy39 => (intro w hSw; obtain p0 := hSw; first | (go_simp; done) | (go_simp; simp [*]; done) | (simp [*]; go_simp; done))
          try simp only [Act.put, List.setIfInBounds_toArray, List.set_cons_zero, List.set_cons_succ]
          refine wpAnyH_ready (rs := [15]) (by kernel_rfl) (by simp) ?_
          refine AllReadyH.cons (o := { dst := none, op := _, type := _, pos := _, after := _, guard := _ }) rfl (fun K hK => ?_) AllReadyH.nil
          go_simp
          try rw [hW9]
          refine hK.out _ _ Y2.out (fun hHeld => ?_)
          try simp only [Act.put, List.setIfInBounds_toArray, List.set_cons_zero, List.set_cons_succ]
          clear hK y3 y4
          refine wpAnyH_done (by kernel_rfl) ?_ _
          clear hHeld
          obtain ⟨ao9, ca9, bo9, cb9, ko9, kc9, vo9, vc9, g3, _⟩ := K9.out.1.parts
          obtain ⟨_, _, _, _, c4, c5, cf⟩ := six g3
          rw [HN.out] at c4 c5
          obtain ⟨xo, xn, xc, W11, a1, ⟨k4, kf⟩, nx⟩ := K9.out.1.app key v HN.out (by have := HNN.out; have := HNb.out; omega) c4 c5
          obtain ⟨W10, hW10⟩ : ∃ x, W9.alloc (.cells #[.string key] 9) = x := ⟨_, rfl⟩
          obtain ⟨W12, hW12⟩ : ∃ x, W11.setCell ⟨b, 4, none⟩ (.slice xo xn xc) = x := ⟨_, rfl⟩
          obtain ⟨k5, zo, zn, zc, W14, a2, ⟨k6, kf2⟩, nx2⟩ := nx W12 hW12
          obtain ⟨W13, hW13⟩ : ∃ x, W12.alloc (.cells #[.int .i64 v] 3) = x := ⟨_, rfl⟩
          obtain ⟨W15, hW15⟩ : ∃ x, W14.setCell ⟨b, 5, none⟩ (.slice zo zn zc) = x := ⟨_, rfl⟩
          obtain ⟨r15, t15, f15⟩ := nx2 W15 hW15
          rw [hW10] at a1
          rw [hW13] at a2
          have HX : Kept (∃ r', Rdd h (N + 1) W15 r' b seed (Dc.set h s key v').1 (kvSet KV key v) ∧ Fr w r W15 r') := HEnd.out W15 r15 (by
            rw [HSET.out]
            unfold kvSet
            rw [HL.out]
            exact t15) (K9.out.2.trans f15)
          have A1 := keep a1
          have A2 := keep a2
          have k4' : W10.cell? ⟨b, 4, none⟩ = some (.slice ko9 n kc9) := by rw [← hW10, World.cell?_of_block (w := W9) (Below.heap_alloc _ _ _ (World.block_lt_of_cell? _ _ c4))]; exact c4
          clear nx nx2 t15 f15 a1 a2 g3 cf
          go_wp2_with (at_builtin; first | refine wpList_app_run rfl _ _ _ _ rfl _ _ _ rfl rfl A1.out ?_ | refine wpList_app_run rfl _ _ _ _ rfl _ _ _ rfl rfl A2.out ?_)
          go_ret
          exact ⟨by rw [HL.out]; rfl, HX.out⟩
      · have hn0p : 0 < n0 := by rw [← HN0.out]; exact List.length_pos_iff.2 ho
        have hz : ((n0 : Int) == 0) = false := beq_eq_false_iff_ne.2 (by omega)
        have HO0 := keep ho
        have hn1p : 0 < n1 := by rw [← HN1.out]; exact List.length_pos_iff.2 hy
        have hz1 : ((n1 : Int) == 0) = false := beq_eq_false_iff_ne.2 (by omega)
        have hgse : gs = s1 := by rw [← hgs]; exact grow_2 ho (fun e => hy e.1)
        subst hgse
        have HM : Kept (gs.young.length = n1 ∧ 0 < n1 ∧ n1 ≤ maxLen) := ⟨HN1.out, hn1p, by have := HB0.out; have := HNb.out; unfold maxLen; omega⟩
        have HG : Kept (gs.young ≠ [] ∧ True ∧ gs.young.flatten.length ≤ N) := ⟨hy, trivial, by have := HFL.out; omega⟩
        clear hy ho hn1p
        clear c0 c3 c5 cf h3 h4 h5 h6 h7 hl hlk hl1 hne hgs
        go_wp2_with fail
        go_quiet (fail)
        obtain ⟨wq, hwq⟩ : ∃ x, w1.drewN nq = x := ⟨_, rfl⟩
        rw [hwq]
        have RQ : Kept (RD wq r1 b seed gs KV ∧ Fr w r wq r1) := by rw [← hwq]; exact ⟨HD.out.1.drewN nq, HF.out.trans (Fr.of_below (below_drewN (Below.refl _ _) nq))⟩
        clear hwq c1 c2 c4
        obtain ⟨ao, ca, bo, cb, ko, kc, vo, vc, h3, h4, h5, h6, h7⟩ := RQ.out.1.parts
        clear h3 h4 h5 h6 h7
        go_upto_region 13 with fail
        clear hz hz1
        obtain ⟨ao, ca, bo, cb, ko, kc, vo, vc, h3, h4, h5, h6, h7⟩ := RQ.out.1.parts
        obtain ⟨c0, c1, c2, c3, c4, c5, cf⟩ := six h3
        rw [HM.out.1] at c2
        obtain ⟨q, hq⟩ : ∃ q, h key % n1 = q := ⟨_, rfl⟩
        have MP := keep (place_any hH wq b n1 cb bo key HKy.out c0 HM.out.2.1 HM.out.2.2)
        rw [hq] at MP
        have hqn : q < n1 := by rw [← hq]; exact Nat.mod_lt _ HM.out.2.1
        obtain ⟨dd, hdd⟩ : ∃ dd, gs.young[q]? = some dd := ⟨_, List.getElem?_eq_getElem (by rw [HM.out.1]; exact hqn)⟩
        obtain ⟨gy, capy, e1, hrg, hgl⟩ := h5.form (by rw [HM.out.1]; omega)
        have hbo : bo = some ⟨gy, 0, none⟩ := by injection e1
        subst hbo
        obtain ⟨vb, hvb, hcb, _⟩ := h5.at hdd
        have fz := h5.free
        obtain ⟨vbo, vbc, e2, _⟩ := hcb.tx.form
        obtain ⟨dl, hdl⟩ : ∃ n, (Dc.keys dd).length = n := ⟨_, rfl⟩
        have hdb : dl ≤ 8000000000000 := by
          have q2 : dd.length ≤ gs.young.flatten.length := (List.sublist_flatten_of_mem (List.mem_of_getElem? hdd)).length_le
          have q3 := HG.out.2.2
          have q4 := HNN.out
          have q5 := HNb.out
          simp only [Dc.keys, List.length_map] at hdl
          omega
        have mA := ahead_any wq.drew key vb (Dc.keys dd) (hcb.tx.bel (Below.refl _ wq).drew) (by rw [hdl]; exact hdb)
        rw [hdl] at e2
        subst e2
        have MA := keep mA
        have hst : Dc.lay h gs (key, v') = { gs with young := gs.young.set q ((key, v') :: dd) } := by
          rw [lay_1 HG.out.1, push_is (c := dd) (by rw [HM.out.1, hq]; exact hdd), HM.out.1, hq]
        have HNX : Kept (∀ w8 u W9, Mine wq.drew w8 u (key :: Dc.keys dd) → w8.setCell ⟨gy, q, none⟩ u = W9 → (w8.cell? ⟨b, 2, none⟩ = some (.slice (some ⟨gy, 0, none⟩) n1 cb) ∧ W9.cell? ⟨b, 2, none⟩ = some (.slice (some ⟨gy, 0, none⟩) n1 cb)) ∧ w8.cell? ⟨gy, q, none⟩ = some (.slice vbo dl vbc) ∧ (∀ k, w8.frozen? ⟨gy, k, none⟩ = false) ∧ ∃ r9, RD W9 r9 b seed (Dc.lay h gs (key, v')) KV ∧ Fr w r W9 r9) := fun w8 u W9 hm hW9 => by
          have hb8 : Below wq.heap.size wq w8 := (Below.refl _ wq).drew.trans hm.2.2
          have h5' := h5
          rw [HM.out.1] at h5'
          obtain ⟨t1, t2⟩ := RQ.out.1.put1 (i := q) (c := dd) (c' := (key, v') :: dd) c2 h5' hdd hb8 hm.1 hm.2.1 hW9
          have hbg : b ≠ gy := fun e => by have h1 := RQ.out.1.2.1; rw [e, hrg] at h1; cases h1
          have k2 := (hb8.cell (p := ⟨b, 2, none⟩) (World.block_lt_of_cell? _ _ c2)).trans c2
          exact ⟨⟨k2, by rw [← hW9, World.cell?_setCell_other _ _ _ _ (by intro e; cases e; exact hbg rfl)]; exact k2⟩, (hb8.cell (p := ⟨gy, q, none⟩) (World.block_lt_of_cell? _ _ hvb)).trans hvb, fun k => (World.frozen?_of_block (w := wq) (a := ⟨gy, k, none⟩) (hb8.block gy hgl)).trans (fz k), _, by rw [hst]; exact t1, RQ.out.2.trans t2.1⟩
        have SY : Kept (wq.drew.cell? ⟨b, 2, none⟩ = some (.slice (some ⟨gy, 0, none⟩) n1 cb)) := c2
        have hvb' : wq.drew.cell? ⟨gy, q, none⟩ = some (.slice vbo dl vbc) := hvb
        have q0 : (0 : Int) ≤ (q : Int) := by omega
        have q1 : (q : Int) < (n1 : Int) := by omega
        have hm0 : decide ((0 : Int) < (n1 : Int)) = true := decide_eq_true (by have := HM.out.2.1; omega)
        have hm0' : (0 : Int) < (n1 : Int) := by have := HM.out.2.1; omega
        clear c1 c0 c3 c4 c5 cf h3 h4 h5 h6 h7 hq hqn hdd hrg hgl hcb fz e1 hdl hdb mA hst
        go_wp2_with fail
        refine MP.out.mono ?_
        rintro _ _ ⟨rfl, hw⟩
        obtain rfl := hw.symm
        clear MP
        go_wp2_with fail
        refine wp_region_held_drew (S := fun W => W.cell? ⟨b, 2, none⟩ = some (.slice (some ⟨gy, 0, none⟩) n1 cb)) (by kernel_rfl) SY.out (fun hHeld => ?_)
        refine wpAnyH_take (i := 0) (oi := { dst := some 81, op := _, type := _, pos := _, after := _, guard := _ }) (v := ?v40) rfl (by kernel_rfl) (by kernel_rfl) (by kernel_rfl) (fun _ _ _ h => h) (Or.inl ⟨by rfl, ?hy40⟩) (by assumption) ?rest40
        case hy40 => (intro w hSw; obtain p0 := hSw; go_simp; try with_reducible rfl)
        try simp only [Act.put, List.setIfInBounds_toArray, List.set_cons_zero, List.set_cons_succ]
        refine wpAnyH_take (i := 1) (oi := { dst := some 82, op := _, type := _, pos := _, after := _, guard := _ }) (v := ?v41) rfl (by kernel_rfl) (by kernel_rfl) (by kernel_rfl) (fun _ _ _ h => h) (Or.inl ⟨by rfl, ?hy41⟩) (by assumption) ?rest41
        case hy41 => (intro w hSw; obtain p0 := hSw; go_simp; try with_reducible rfl)
        try simp only [Act.put, List.setIfInBounds_toArray, List.set_cons_zero, List.set_cons_succ]
        refine wpAnyH_take (i := 2) (oi := { dst := some 83, op := _, type := _, pos := _, after := _, guard := _ }) (v := ?v42) rfl (by kernel_rfl) (by kernel_rfl) (by kernel_rfl) (fun _ _ _ h => h) (Or.inl ⟨by rfl, ?hy42⟩) (by assumption) ?rest42
        case hy42 => (intro w hSw; obtain p0 := hSw; go_simp; try with_reducible rfl)
        try simp only [Act.put, List.setIfInBounds_toArray, List.set_cons_zero, List.set_cons_succ]
        refine wpAnyH_take (i := 3) (oi := { dst := some 84, op := _, type := _, pos := _, after := _, guard := _ }) (v := (.slice (some ⟨gy, 0, none⟩) n1 cb)) rfl (by kernel_rfl) (by kernel_rfl) (by kernel_rfl) (fun _ _ _ h => h) (Or.inl ⟨by rfl, ?hy43⟩) (by assumption) ?rest43
        case hy43 => (intro w hSw; obtain p0 := hSw; first | (go_simp; done) | (go_simp; simp [*]; done) | (simp [*]; go_simp; done))
        try simp only [Act.put, List.setIfInBounds_toArray, List.set_cons_zero, List.set_cons_succ]
        refine wpAnyH_take (i := 4) (oi := { dst := some 85, op := _, type := _, pos := _, after := _, guard := _ }) (v := ?v44) rfl (by kernel_rfl) (by kernel_rfl) (by kernel_rfl) (fun _ _ _ h => h) (Or.inl ⟨by rfl, ?hy44⟩) (by assumption) ?rest44
        case hy44 => (intro w hSw; obtain p0 := hSw; go_simp; try with_reducible rfl)
        try simp only [Act.put, List.setIfInBounds_toArray, List.set_cons_zero, List.set_cons_succ]
        refine wpAnyH_take (i := 5) (oi := { dst := some 86, op := _, type := _, pos := _, after := _, guard := _ }) (v := ?v45) rfl (by kernel_rfl) (by kernel_rfl) (by kernel_rfl) (fun _ _ _ h => h) (Or.inl ⟨by rfl, ?hy45⟩) (by assumption) ?rest45
        case hy45 => (intro w hSw; obtain p0 := hSw; go_simp; try with_reducible rfl)
        try simp only [Act.put, List.setIfInBounds_toArray, List.set_cons_zero, List.set_cons_succ]
        refine wpAnyH_take (i := 6) (oi := { dst := some 87, op := _, type := _, pos := _, after := _, guard := _ }) (v := ?v46) rfl (by kernel_rfl) (by kernel_rfl) (by kernel_rfl) (fun _ _ _ h => h) (Or.inl ⟨by rfl, ?hy46⟩) (by assumption) ?rest46
        case hy46 => (intro w hSw; obtain p0 := hSw; go_simp; try with_reducible rfl)
        try simp only [Act.put, List.setIfInBounds_toArray, List.set_cons_zero, List.set_cons_succ]
        refine wpAnyH_take (i := 7) (oi := { dst := some 88, op := _, type := _, pos := _, after := _, guard := _ }) (v := ?v47) rfl (by kernel_rfl) (by kernel_rfl) (by kernel_rfl) (fun _ _ _ h => h) (Or.inl ⟨by rfl, ?hy47⟩) (by assumption) ?rest47
        case hy47 => (intro w hSw; obtain p0 := hSw; go_simp; try with_reducible rfl)
        try simp only [Act.put, List.setIfInBounds_toArray, List.set_cons_zero, List.set_cons_succ]
        refine wpAnyH_take (i := 8) (oi := { dst := some 89, op := _, type := _, pos := _, after := _, guard := _ }) (v := ?v48) rfl (by kernel_rfl) (by kernel_rfl) (by kernel_rfl) (fun _ _ _ h => h) (Or.inl ⟨by rfl, ?hy48⟩) (by assumption) ?rest48
        case hy48 => (intro w hSw; obtain p0 := hSw; go_simp; try with_reducible rfl)
        try simp only [Act.put, List.setIfInBounds_toArray, List.set_cons_zero, List.set_cons_succ]
        refine wpAnyH_take (i := 9) (oi := { dst := some 90, op := _, type := _, pos := _, after := _, guard := _ }) (v := (.slice (some ⟨gy, 0, none⟩) n1 cb)) rfl (by kernel_rfl) (by kernel_rfl) (by kernel_rfl) (fun _ _ _ h => h) (Or.inl ⟨by rfl, ?hy49⟩) (by assumption) ?rest49
        case hy49 => (intro w hSw; obtain p0 := hSw; first | (go_simp; done) | (go_simp; simp [*]; done) | (simp [*]; go_simp; done))
        try simp only [Act.put, List.setIfInBounds_toArray, List.set_cons_zero, List.set_cons_succ]
        refine wpAnyH_take (i := 10) (oi := { dst := some 91, op := _, type := _, pos := _, after := _, guard := _ }) (v := ?v50) rfl (by kernel_rfl) (by kernel_rfl) (by kernel_rfl) (fun _ _ _ h => h) (Or.inl ⟨by rfl, ?hy50⟩) (by assumption) ?rest50
        case hy50 => (intro w hSw; obtain p0 := hSw; go_simp; try with_reducible rfl)
        try simp only [Act.put, List.setIfInBounds_toArray, List.set_cons_zero, List.set_cons_succ]
        refine wpAnyH_take (i := 11) (oi := { dst := some 92, op := _, type := _, pos := _, after := _, guard := _ }) (v := (.pointer (some ⟨gy, q, none⟩))) rfl (by kernel_rfl) (by kernel_rfl) (by kernel_rfl) (fun _ _ _ h => h) (Or.inl ⟨by rfl, ?hy51⟩) (by assumption) ?rest51
        case hy51 => (intro w hSw; obtain p0 := hSw; first | (go_simp; done) | (go_simp; simp [*]; done) | (simp [*]; go_simp; done))
        try simp only [Act.put, List.setIfInBounds_toArray, List.set_cons_zero, List.set_cons_succ]
        refine wpAnyH_ready (rs := [12]) (by kernel_rfl) (by simp) ?_
        refine AllReadyH.cons (o := { dst := some 93, op := _, type := _, pos := _, after := _, guard := _ }) rfl (fun K hK => ?_) AllReadyH.nil
        go_simp
        refine hK.out _ _ SY.out (fun hHeld => ?_)
        try simp only [Act.put, List.setIfInBounds_toArray, List.set_cons_zero, List.set_cons_succ]
        clear hK
        refine wpAnyH_ready (rs := [13]) (by kernel_rfl) (by simp) ?_
        refine AllReadyH.cons (o := { dst := some 94, op := _, type := _, pos := _, after := _, guard := _ }) rfl (fun K hK => ?_) AllReadyH.nil
        go_simp
        refine MA.out.mono ?_
        rintro _ w8 ⟨u, rfl, hu⟩
        obtain ⟨uo, un, uc, rfl⟩ := mine_slice hu
        obtain ⟨W9, hW9⟩ : ∃ x, w8.setCell ⟨gy, q, none⟩ (.slice uo un uc) = x := ⟨_, rfl⟩
        obtain ⟨⟨y1, y2⟩, y3, y4, r9, y5⟩ := HNX.out w8 _ W9 hu hW9
        have Y1 := keep y1
        have Y2 := keep y2
        have K9 := keep y5
        refine hK.out _ _ Y1.out (fun hHeld => ?_)
        try simp only [Act.put, List.setIfInBounds_toArray, List.set_cons_zero, List.set_cons_succ]
        clear hK MA HNX hu y1 y2 y5 hvb hvb'
        refine wpAnyH_take (i := 14) (oi := { dst := some 95, op := _, type := _, pos := _, after := _, guard := _ }) (v := (.pointer (some ⟨gy, q, none⟩))) rfl (by kernel_rfl) (by kernel_rfl) (by kernel_rfl) (fun _ _ _ h => h) (Or.inl ⟨by rfl, ?hy52⟩) (by assumption) ?rest52
        case hy52 => (intro w hSw; obtain p0 := hSw; first | (go_simp; done) | (go_simp; simp [*]; done) | (simp [*]; go_simp; done))
        try simp only [Act.put, List.setIfInBounds_toArray, List.set_cons_zero, List.set_cons_succ]
        refine wpAnyH_ready (rs := [15]) (by kernel_rfl) (by simp) ?_
        refine AllReadyH.cons (o := { dst := none, op := _, type := _, pos := _, after := _, guard := _ }) rfl (fun K hK => ?_) AllReadyH.nil
        go_simp
        try rw [hW9]
        refine hK.out _ _ Y2.out (fun hHeld => ?_)
        try simp only [Act.put, List.setIfInBounds_toArray, List.set_cons_zero, List.set_cons_succ]
        clear hK y3 y4
        refine wpAnyH_done (by kernel_rfl) ?_ _
        clear hHeld
        obtain ⟨ao9, ca9, bo9, cb9, ko9, kc9, vo9, vc9, g3, _⟩ := K9.out.1.parts
        obtain ⟨_, _, _, _, c4, c5, cf⟩ := six g3
        rw [HN.out] at c4 c5
        obtain ⟨xo, xn, xc, W11, a1, ⟨k4, kf⟩, nx⟩ := K9.out.1.app key v HN.out (by have := HNN.out; have := HNb.out; omega) c4 c5
        obtain ⟨W10, hW10⟩ : ∃ x, W9.alloc (.cells #[.string key] 9) = x := ⟨_, rfl⟩
        obtain ⟨W12, hW12⟩ : ∃ x, W11.setCell ⟨b, 4, none⟩ (.slice xo xn xc) = x := ⟨_, rfl⟩
        obtain ⟨k5, zo, zn, zc, W14, a2, ⟨k6, kf2⟩, nx2⟩ := nx W12 hW12
        obtain ⟨W13, hW13⟩ : ∃ x, W12.alloc (.cells #[.int .i64 v] 3) = x := ⟨_, rfl⟩
        obtain ⟨W15, hW15⟩ : ∃ x, W14.setCell ⟨b, 5, none⟩ (.slice zo zn zc) = x := ⟨_, rfl⟩
        obtain ⟨r15, t15, f15⟩ := nx2 W15 hW15
        rw [hW10] at a1
        rw [hW13] at a2
        have HX : Kept (∃ r', Rdd h (N + 1) W15 r' b seed (Dc.set h s key v').1 (kvSet KV key v) ∧ Fr w r W15 r') := HEnd.out W15 r15 (by
          rw [HSET.out]
          unfold kvSet
          rw [HL.out]
          exact t15) (K9.out.2.trans f15)
        have A1 := keep a1
        have A2 := keep a2
        have k4' : W10.cell? ⟨b, 4, none⟩ = some (.slice ko9 n kc9) := by rw [← hW10, World.cell?_of_block (w := W9) (Below.heap_alloc _ _ _ (World.block_lt_of_cell? _ _ c4))]; exact c4
        clear nx nx2 t15 f15 a1 a2 g3 cf
        go_wp2_with (at_builtin; first | refine wpList_app_run rfl _ _ _ _ rfl _ _ _ rfl rfl A1.out ?_ | refine wpList_app_run rfl _ _ _ _ rfl _ _ _ rfl rfl A2.out ?_)
        go_ret
        exact ⟨by rw [HL.out]; rfl, HX.out⟩
  · have hpl := (List.getElem?_eq_some_iff.1 hp).1
    have hl := look_atK HNd.out hp
    rw [hl] at hlk
    obtain ⟨y, hy⟩ : ∃ y, Dc.look key (Dc.all s1) = some y := by cases h' : Dc.look key (Dc.all s1) with | none => rw [h'] at hlk; cases hlk | some y => exact ⟨y, rfl⟩
    have hvo : ∃ g, vo = some ⟨g, 0, none⟩ := by
      rcases h7.2 with ⟨e, h0⟩ | ⟨g, cap, cur, e, _⟩
      · rw [List.length_map] at h0; omega
      · injection e with e1; exact ⟨g, e1⟩
    obtain ⟨g, rfl⟩ := hvo
    have e0 := h7.at (j := p) (x := x) (by rw [List.getElem?_map, hp]; rfl)
    obtain ⟨W, hW⟩ : ∃ W, w1.setCell ⟨g, p, none⟩ (.int .i64 v) = W := ⟨_, rfl⟩
    obtain ⟨t1, t2, fz⟩ := HD.out.1.setv c5 hp hW
    have HX : Kept (∃ r', Rdd h (N + 1) W r' b seed (Dc.set h s key v').1 (kvSet KV key v) ∧ Fr w r W r') := HEnd.out W r1 (by
      rw [set_old (y := y) (by rw [HS1.out]; exact hy), HS1.out]
      unfold kvSet
      rw [hl]
      simp only [Option.isSome_some, if_true]
      rw [← alter_at HNd.out hp]
      exact t1.alter key v') (HF.out.trans t2)
    have HL := keep hl
    have p0 : (0 : Int) ≤ (p : Int) := by omega
    have p1 : (p : Int) < (n : Int) := by omega
    have p2 : decide ((0 : Int) ≤ (p : Int)) = true := decide_eq_true p0
    clear c0 c1 c2 c3 c4 cf h3 h4 h5 h6 h7 hp hpl hl hlk hy t1 t2
    go_wp2
    go_ret
    exact ⟨by rw [HL.out]; rfl, HX.out⟩
end Rd
end Go.Proofs.YtlfpkbjiofelkaaGreat
