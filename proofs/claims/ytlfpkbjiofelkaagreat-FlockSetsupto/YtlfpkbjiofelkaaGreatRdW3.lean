/-
  FlockSets, walked: flocks beside the document's own ones, some of them none; their unions, what all have, and differences.
-/
import Derived.Test.YtlfpkbjiofelkaaGreatRdW2
import Derived.Test.YtlfpkbjiofelkaaGreatFlOpen3
import Derived.LaidEqlPtr
namespace Go.Proofs.YtlfpkbjiofelkaaGreat
open Go.RowKit Go.Shelf
set_option linter.unusedVariables false
set_option linter.unusedSimpArgs false
set_option maxRecDepth 100000
namespace Rd
def Stm (W w : World) (v5 v6 : Value) (M : List (Option Itm)) : Prop := Sts W w v5 v6 (M.map p5) (M.map p6) (M.filterMap id) ∧ ∀ o ∈ M, ∀ f, o = some f → f.N ≤ 1048576
def Gv (W w : World) (v5 v6 vg : Value) (M : List (Option Itm)) : Prop := Stm W w v5 v6 M ∧ ∃ B, Po 25 B w vg (M.map p5)
/-- bools that came in -/
def Bools (w : World) (so : Option Addr) (S : List Bool) : Prop := ∀ j (h : j < S.length), ∃ a, so = some a ∧ a.block < w.heap.size ∧ w.cell? (a.add j) = some (.bool S[j])
section
variable {W w w' : World} {v5 v6 vg : Value} {M : List (Option Itm)}
theorem Gv.below (h : Gv W w v5 v6 vg M) (hb : Below w.heap.size w w') : Gv W w' v5 v6 vg M := by
  obtain ⟨⟨h1, h2⟩, B, h3⟩ := h
  exact ⟨⟨h1.below hb, h2⟩, B, po_kept h3 (fun k hk => hb.block k (po_lt h3 hk).2)⟩
theorem Stm.alls (h : Stm W w v5 v6 M) : Alls w M := fun o ho f hf => by
  subst hf
  exact ⟨(h.1.2.2.2.2.1 f (List.mem_filterMap.2 ⟨_, ho, rfl⟩)).1, by have := h.2 _ ho f rfl; omega⟩
theorem Gv.alls (h : Gv W w v5 v6 vg M) : Alls w M := h.1.alls
theorem Gv.un {ao : Option Addr} {m cp : Nat} (h : Gv W w v5 v6 (.slice ao m cp) M) (hM : M.length ≤ 1048577) : Calls Tryz.prog 14 #[.slice ao m cp] w (Tel (Uni M) w) := un_f h.alls h.2.choose_spec hM
theorem Gv.itr [Inhabited Txt] {ao : Option Addr} {m cp : Nat} (h : Gv W w v5 v6 (.slice ao m cp) M) (hM : M.length ≤ 1048577) : Calls Tryz.prog 15 #[.slice ao m cp] w (Tel (Itr M) w) := in_f h.alls h.2.choose_spec hM
theorem Gv.dif [Inhabited Txt] {ao : Option Addr} {m cp : Nat} (h : Gv W w v5 v6 (.slice ao m cp) M) (hM : M.length ≤ 1048577) : Calls Tryz.prog 16 #[.slice ao m cp] w (Tel (Dif M) w) := di_f h.alls h.2.choose_spec hM
theorem Gv.run {ao : Option Addr} {m cp : Nat} (h : Gv W w v5 (.slice ao m cp) vg M) (hM : M.length ≤ 1048577) : Calls Tryz.prog 18 #[.slice ao m cp] w (Ted (Uni M) w) := un_m h.alls h.1.1.2.2.1 hM
theorem Gv.ritr {ao : Option Addr} {m cp : Nat} (h : Gv W w v5 (.slice ao m cp) vg M) (hM : M.length ≤ 1048577) : Calls Tryz.prog 19 #[.slice ao m cp] w (Ted (Itr M) w) := in_m h.alls h.1.1.2.2.1 hM
theorem Gv.rdif {ao : Option Addr} {m cp : Nat} (h : Gv W w v5 (.slice ao m cp) vg M) (hM : M.length ≤ 1048577) : Calls Tryz.prog 20 #[.slice ao m cp] w (Ted (Dif M) w) := di_m h.alls h.1.1.2.2.1 hM
theorem Stm.none (h : Sts W w v5 v6 (M.map p5 ++ [Option.none]) (M.map p6 ++ [Option.none]) (M.filterMap id)) (hN : ∀ o ∈ M, ∀ f, o = some f → f.N ≤ 1048576) : Stm W w v5 v6 (M ++ [Option.none]) := by
  refine ⟨?_, fun o ho f hf => ?_⟩
  · rw [List.map_append, List.map_append, List.filterMap_append]
    simpa [p5, p6] using h
  · rcases List.mem_append.1 ho with e | e
    · exact hN o e f hf
    · rw [List.mem_singleton.1 e] at hf; cases hf
theorem Stm.some {f : Itm} (h : Sts W w v5 v6 (M.map p5 ++ [Option.some ⟨f.R, 0, Option.none⟩]) (M.map p6 ++ [Option.some ⟨f.R2, 0, Option.none⟩]) (M.filterMap id ++ [f])) (hN : ∀ o ∈ M, ∀ f, o = Option.some f → f.N ≤ 1048576) (hf : f.N ≤ 1048576) : Stm W w v5 v6 (M ++ [Option.some f]) := by
  refine ⟨?_, fun o ho f' hf' => ?_⟩
  · rw [List.map_append, List.map_append, List.filterMap_append]
    simpa [p5, p6] using h
  · rcases List.mem_append.1 ho with e | e
    · exact hN o e f' hf'
    · rw [List.mem_singleton.1 e] at hf'; cases hf'; exact hf
theorem new_roles (n q : Nat) : rr (fun k => if k = n then (5, 0) else (0, 0)) (n + 1) q ≠ (0, 0) → n ≤ q := by
  intro hq
  by_cases e1 : q = n + 1
  · omega
  · by_cases e2 : q = n
    · omega
    · exact absurd (by simp [rr, e1, e2]) hq
theorem nodup_sub {α : Type} [DecidableEq α] : ∀ {L K : List α}, L.Nodup → (∀ x ∈ L, x ∈ K) → L.length ≤ K.length
  | [], K, _, _ => Nat.zero_le _
  | a :: L, K, hn, hs => by
    have ha := hs a (by simp)
    have hn' := List.nodup_cons.1 hn
    have h1 := nodup_sub (K := K.erase a) hn'.2 (fun x hx => (List.mem_erase_of_ne (fun e => by subst e; exact hn'.1 hx)).2 (hs x (by simp [hx])))
    rw [List.length_erase_of_mem ha] at h1
    have h2 := List.length_pos_of_mem ha
    rw [List.length_cons]
    omega
theorem Alls.len (h : Alls w M) (hM : M.length ≤ 1048577) {L : List ByteArray} (hr : Rise L) (hs : ∀ x ∈ L, ∃ o ∈ M, x ∈ fx o) : L.length ≤ 4000000000000 := by
  have h1 : L.length ≤ (M.map fx).flatten.length := nodup_sub (rise_nd hr) fun x hx => by
    obtain ⟨o, ho, hx⟩ := hs x hx
    exact List.mem_flatten.2 ⟨_, List.mem_map.2 ⟨o, ho, rfl⟩, hx⟩
  rw [List.length_flatten, List.map_map] at h1
  have h2 := sum_few (L := M) (g := List.length ∘ fx) fun o ho => (h.few o ho).1
  omega
theorem Uni.few {L : List ByteArray} (u : Uni M L) (h : Alls w M) (hM : M.length ≤ 1048577) : L.length ≤ 4000000000000 := h.len hM u.1 fun x hx => (u.2 x).1 hx
theorem Itr.few {L : List ByteArray} (u : Itr M L) (h : Alls w M) (hM : M.length ≤ 1048577) : L.length ≤ 4000000000000 := h.len hM u.1 fun x hx => by
  obtain ⟨o, T, rfl, h1, _⟩ := (u.2 x).1 hx
  exact ⟨o, by simp, h1⟩
theorem Dif.few {L : List ByteArray} (u : Dif M L) (h : Alls w M) (hM : M.length ≤ 1048577) : L.length ≤ 4000000000000 := h.len hM u.1 fun x hx => by
  obtain ⟨o, T, rfl, h1, _⟩ := (u.2 x).1 hx
  exact ⟨o, by simp, h1⟩
end
theorem ne_ptr (a : Addr) (w : World) : (binOp .neq 25 (.pointer (some a)) (.pointer (some a))).run Tryz.prog w = .ok (.bool false) w := by
  obtain ⟨j, hj⟩ : ∃ j, Tryz.prog.info? 56 = some j := Option.isSome_iff_exists.1 (by kernel_rfl)
  have h : ∀ d : Nat, (Op.equalIn (d + 1) 25 (.pointer (some a)) (.pointer (some a))).run Tryz.prog w = .ok true w := fun d => by
    simp [Op.equalIn, run_underlying Tryz.underlying25, sizeOf, typeInfo, hj, run_sameAddr_same]
  simp only [binOp]
  simp [Op.equal, Op.maxDepth, h 9999]
theorem sum_at {R : List (List ByteArray)} {k : Nat} (hk : k < R.length) : R[k].length ≤ (R.map List.length).sum := by
  have h : R = R.take k ++ R[k] :: R.drop (k + 1) := by rw [List.getElem_cons_drop, List.take_append_drop]
  conv => rhs; rw [h]
  rw [List.map_append, List.sum_append, List.map_cons, List.sum_cons]
  omega
set_option maxHeartbeats 60000000 in
theorem sets_walk [Inhabited Txt] (W : World) (so : Option Addr) (cap : Nat) (R : List (List ByteArray)) (hR : Rowss W so R) (nb : Option Addr) (cb : Nat) (B : List Bool) (hB : Bools W nb B) (hn1 : R.length ≤ 1048576) (hn2 : (R.map List.length).sum ≤ 1048576) :
    Calls Tryz.prog 4 #[.slice so R.length cap, .slice nb B.length cb] W fun e w' => e = .returned (.bool true) ∧ Below W.heap.size W w' := by
  obtain ⟨n, hn⟩ : ∃ n, R.length = n := ⟨_, rfl⟩
  obtain ⟨nB, hnB⟩ : ∃ nB, B.length = nB := ⟨_, rfl⟩
  have HR := keep hR
  have HBo := keep hB
  have HN := keep hn
  have HNB := keep hnB
  rw [hn] at hn1 ⊢
  rw [hnB]
  have HN1 := keep hn1
  have HN2 := keep hn2
  have I0 : Kept (∃ M : List (Option Itm), M.length = 0 ∧ Stm W W (.slice none 0 0) (.slice none 0 0) M) := ⟨[], rfl, Sts.start (Below.refl _ _), fun o ho => by cases ho⟩
  clear hR hB hn hnB hn1 hn2
  go_enter Tryz.func4, Tryz.ntmps4
  go_wp2
  go_loopw [5, 6, 21] (fun v5 v6 i wr => ∃ (k : Nat) (ao5 ao6 : Option Addr) (cp5 cp6 : Nat), k ≤ n ∧ i = .int .i64 k ∧ v5 = .slice ao5 k cp5 ∧ v6 = .slice ao6 k cp6 ∧ Kept (∃ M : List (Option Itm), M.length = k ∧ Stm W wr (.slice ao5 k cp5) (.slice ao6 k cp6) M)) (fun _ _ i _ => n - (intOf i).toNat)
  case atStart => exact ⟨0, none, none, 0, 0, Nat.zero_le _, rfl, rfl, rfl, I0⟩
  case round =>
    clear I0
    obtain ⟨k, ao5, ao6, cp5, cp6, hk, rfl, rfl, rfl, KI⟩ := hrel
    obtain ⟨M, hMk, hS, hMN⟩ := KI.out
    have HMK := keep hMk
    have HS := keep hS
    have HMN := keep hMN
    clear hMk hS hMN KI
    by_cases hlt : k < n
    · have hltz : (k : Int) < (n : Int) := by omega
      have hk0 : (0 : Int) ≤ (k : Int) := by omega
      have hk1 : k ≤ 1048576 := by have := HN1.out; omega
      have hwk : IntKind.i64.wrap ((k : Int) + 1) = (k : Int) + 1 := by rw [IntKind.wrap_i64]; omega
      have hwu : IntKind.u64.wrap (k : Int) = (k : Int) := by rw [IntKind.wrap_u64]; omega
      have hkR : k < R.length := by rw [HN.out]; exact hlt
      obtain ⟨a, rfl, hab, so', cap', hc0, hT, hTl, hTc⟩ := HR.out k hkR
      have hst := sum_at hkR
      obtain ⟨Sk, hSk⟩ : ∃ Sk, R[k]'hkR = Sk := ⟨_, rfl⟩
      rw [hSk] at hc0 hT hTl hst
      clear hSk
      obtain ⟨q, hq⟩ : ∃ q, Sk.length = q := ⟨_, rfl⟩
      rw [hq] at hc0 hTl hst
      have hqb : q ≤ 1048576 := by have := HN2.out; omega
      have hc1 := (HS.out.1.cell (p := a.add k) (by rw [add_block]; exact hab)).trans hc0
      have HT := keep hT
      have HQ := keep hq
      have HQB := keep hqb
      have HLT := keep hlt
      have HK1 := keep hk1
      clear hT hTc hq hst hlt hc0 hab hkR hTl hqb
      by_cases hkb : k < nB
      · have hkbz : (k : Int) < (nB : Int) := by omega
        obtain ⟨a2, rfl, hab2, hcb⟩ := HBo.out k (by rw [HNB.out]; exact hkb)
        have hcb1 := (HS.out.1.cell (p := a2.add k) (by rw [add_block]; exact hab2)).trans hcb
        generalize B[k]'(by rw [HNB.out]; exact hkb) = bk at hcb1
        clear hcb hab2 hkb
        cases bk with
        | true =>
          as_aux_lemma =>
            obtain ⟨g5, c5, w1, r5, P5, G5, A5⟩ := pushF HS.out.2.1 HS.out.1.size none (by rw [List.length_map, HMK.out]; omega)
            have S1 := HS.out.row5 P5 G5 (fun g hg => by cases hg; exact A5)
            obtain ⟨g6, c6, w2, r6, P6, G6, A6⟩ := pushR S1.2.2.1 S1.1.size none (by rw [List.length_map, HMK.out]; omega)
            have S2 := Stm.none (S1.row6 P6 G6 (fun g hg => by cases hg; exact A6)) HMN.out
            rw [List.length_map, HMK.out] at r5 r6 S2
            have R5 := keep r5
            have R6 := keep r6
            have I1 : Kept (∃ M : List (Option Itm), M.length = k + 1 ∧ Stm W w2 (.slice (some ⟨g5, 0, none⟩) (k + 1) c5) (.slice (some ⟨g6, 0, none⟩) (k + 1) c6) M) := ⟨M ++ [none], by rw [List.length_append, HMK.out]; rfl, by rw [List.length_map, HMK.out] at S2; exact S2⟩
            clear r5 r6 P5 P6 G5 G6 A5 A6 S1 S2
            go_wp2_with (first | (show wpList _ _ _ ({ dst := some 38, op := Op.call { callee := Callee.builtin Builtin.append, args := _, argTypes := _ }, type := _, pos := _, after := _, guard := _ } :: _) _ _; refine wpL_app_run rfl (.tmp 36) (.tmp 37) 41 rfl _ _ _ rfl rfl R5.out ?_) | (show wpList _ _ _ ({ dst := some 41, op := Op.call { callee := Callee.builtin Builtin.append, args := _, argTypes := _ }, type := _, pos := _, after := _, guard := _ } :: _) _ _; refine wpL_app_run rfl (.tmp 39) (.tmp 40) 42 rfl _ _ _ rfl rfl R6.out ?_) | fail)
            go_roundw
            case measure => simp [intOf]; have := HLT.out; omega
            case rel => exact ⟨k + 1, _, _, _, _, by have := HLT.out; omega, by go_num, rfl, rfl, I1⟩
        | false =>
          as_aux_lemma =>
            have mN := rnew_any (hs k) wr k 0
            go_wp2_with fail
            refine mN.mono ?_
            rintro _ w2 ⟨rfl, hb2, hr2⟩
            have mR := rfnew_any (hs k) w2 k 0
            clear mN
            go_wp2_with fail
            refine mR.mono ?_
            rintro _ w3 ⟨R2, q3, b3, rfl, hb3, hf3, hm3⟩
            obtain ⟨O, hPf, hO⟩ := new_pair hb2 hr2 (fun q => new_roles _ q) hb3 hf3 hm3
            have hS3 := HS.out.new (bup hb2 hb3) (f := ⟨wr.heap.size + 1, R2, k, 0, O, [], Dc.none0⟩) hPf hO
            have hc3 := ((bup hb2 hb3).cell (p := a.add k) (lt_cell hc1)).trans hc1
            obtain ⟨R0, hR0⟩ : ∃ R0, wr.heap.size + 1 = R0 := ⟨_, rfl⟩
            rw [hR0] at hS3 ⊢
            have F0 : Kept (∃ N O l s, N ≤ 0 ∧ Sts W w3 (.slice ao5 k cp5) (.slice ao6 k cp6) (M.map p5) (M.map p6) (M.filterMap id ++ [⟨R0, R2, k, N, O, l, s⟩])) := ⟨_, _, _, _, Nat.le_refl _, hS3⟩
            clear mR hb2 hb3 hr2 hf3 hm3 hPf hO hS3 hR0 hc1 hc3
            go_wp2
            go_loopw [52] (fun i wr => ∃ j : Nat, j ≤ q ∧ i = .int .i64 j ∧ Kept (∃ N O l s, N ≤ j ∧ Sts W wr (.slice ao5 k cp5) (.slice ao6 k cp6) (M.map p5) (M.map p6) (M.filterMap id ++ [⟨R0, R2, k, N, O, l, s⟩]))) (fun i _ => q - (intOf i).toNat)
            case atStart => exact ⟨0, Nat.zero_le _, rfl, F0⟩
            case round =>
              clear F0
              obtain ⟨j, hj, rfl, KF⟩ := hrel
              obtain ⟨N, O, l, s, hNj, hSf⟩ := KF.out
              have HSF := keep hSf
              have HNJ := keep hNj
              clear hSf hNj KF
              by_cases hjl : j < q
              · have hjz : (j : Int) < (q : Int) := by omega
                have hj0 : (0 : Int) ≤ (j : Int) := by omega
                have hqb := HQB.out
                have hwj : IntKind.i64.wrap ((j : Int) + 1) = (j : Int) + 1 := by rw [IntKind.wrap_i64]; omega
                obtain ⟨a3, rfl, ha3, hsz, hc2⟩ := HT.out j (by rw [HQ.out]; exact hjl)
                have hc3 := (HSF.out.1.cell (p := a3.add j) (by rw [add_block]; exact ha3)).trans hc2
                obtain ⟨y, hy⟩ : ∃ y, Sk[j]'(by rw [HQ.out]; exact hjl) = y := ⟨_, rfl⟩
                rw [hy] at hc3
                have hp : Pf (hs k) N wr O R0 R2 k l s := (HSF.out.2.2.2.2.1 _ (List.mem_append_right _ (List.mem_singleton.2 rfl))).1
                have hsd : Kept (k < Dw.M) := by show k < 18446744073709551616; have := HK1.out; omega
                have hN1 : Kept (N + 1 ≤ 2600000000000) := by show N + 1 ≤ _; have := HNJ.out; omega
                have m1 := add_f hp hsd.out hN1.out y
                have HJL := keep hjl
                clear hp hy hc2 ha3 hsz hjl hqb
                go_wp2_with fail
                refine m1.mono ?_
                rintro _ w4 ⟨v4, O4, rfl, hmid, hF4⟩
                have HM4 := keep hmid
                have HF4 := keep hF4
                clear m1 hmid hF4 hc3
                go_wp2_with fail
                refine (add_m HM4.out hsd.out hN1.out).mono ?_
                rintro _ w5 ⟨v5', O5, l5, rfl, hP5, hF5⟩
                have F1 : Kept (∃ N O l s, N ≤ j + 1 ∧ Sts W w5 (.slice ao5 k cp5) (.slice ao6 k cp6) (M.map p5) (M.map p6) (M.filterMap id ++ [⟨R0, R2, k, N, O, l, s⟩])) := ⟨N + 1, O5, l5, _, by have := HNJ.out; omega, HSF.out.step (f' := ⟨R0, R2, k, N + 1, O5, l5, _⟩) hP5 (HF4.out.trans hF5)⟩
                clear hP5 hF5 HM4 HF4 HSF
                go_wp2
                go_roundw
                case measure => simp [intOf]; have := HJL.out; omega
                case rel => exact ⟨j + 1, by have := HJL.out; omega, by go_num, F1⟩
              · have hjz : ¬ (j : Int) < (q : Int) := by omega
                have hk9 := HK1.out
                obtain ⟨g5, c5, w1, r5, P5, G5, A5⟩ := pushF HSF.out.2.1 HSF.out.1.size (some ⟨R0, 0, none⟩) (by rw [List.length_map, HMK.out]; omega)
                have S1 := HSF.out.row5 P5 G5 (fun g hg => by cases hg; exact A5)
                obtain ⟨g6, c6, w2', r6, P6, G6, A6⟩ := pushR S1.2.2.1 S1.1.size (some ⟨R2, 0, none⟩) (by rw [List.length_map, HMK.out]; omega)
                have S2 := Stm.some (f := ⟨R0, R2, k, N, O, l, s⟩) (S1.row6 P6 G6 (fun g hg => by cases hg; exact A6)) HMN.out (by have := HNJ.out; have := HQB.out; show N ≤ _; omega)
                rw [List.length_map, HMK.out] at r5 r6 S2
                have R5 := keep r5
                have R6 := keep r6
                have I1 : Kept (∃ M : List (Option Itm), M.length = k + 1 ∧ Stm W w2' (.slice (some ⟨g5, 0, none⟩) (k + 1) c5) (.slice (some ⟨g6, 0, none⟩) (k + 1) c6) M) := ⟨M ++ [some ⟨R0, R2, k, N, O, l, s⟩], by rw [List.length_append, HMK.out]; rfl, by rw [List.length_map, HMK.out] at S2; exact S2⟩
                clear r5 r6 P5 P6 G5 G6 A5 A6 S1 S2 HSF hk9
                go_wp2_with (first | (show wpList _ _ _ ({ dst := some 66, op := Op.call { callee := Callee.builtin Builtin.append, args := _, argTypes := _ }, type := _, pos := _, after := _, guard := _ } :: _) _ _; refine wpL_app_run rfl (.tmp 63) (.tmp 65) 41 rfl _ _ _ rfl rfl R5.out ?_) | (show wpList _ _ _ ({ dst := some 70, op := Op.call { callee := Callee.builtin Builtin.append, args := _, argTypes := _ }, type := _, pos := _, after := _, guard := _ } :: _) _ _; refine wpL_app_run rfl (.tmp 67) (.tmp 69) 42 rfl _ _ _ rfl rfl R6.out ?_) | fail)
                go_roundw
                case measure => simp [intOf]; have := HLT.out; omega
                case rel => exact ⟨k + 1, _, _, _, _, by have := HLT.out; omega, by go_num, rfl, rfl, I1⟩
      · have hkbz : ¬ (k : Int) < (nB : Int) := by omega
        clear hkb
        as_aux_lemma =>
          have mN := rnew_any (hs k) wr k 0
          go_wp2_with fail
          refine mN.mono ?_
          rintro _ w2 ⟨rfl, hb2, hr2⟩
          have mR := rfnew_any (hs k) w2 k 0
          clear mN
          go_wp2_with fail
          refine mR.mono ?_
          rintro _ w3 ⟨R2, q3, b3, rfl, hb3, hf3, hm3⟩
          obtain ⟨O, hPf, hO⟩ := new_pair hb2 hr2 (fun q => new_roles _ q) hb3 hf3 hm3
          have hS3 := HS.out.new (bup hb2 hb3) (f := ⟨wr.heap.size + 1, R2, k, 0, O, [], Dc.none0⟩) hPf hO
          have hc3 := ((bup hb2 hb3).cell (p := a.add k) (lt_cell hc1)).trans hc1
          obtain ⟨R0, hR0⟩ : ∃ R0, wr.heap.size + 1 = R0 := ⟨_, rfl⟩
          rw [hR0] at hS3 ⊢
          have F0 : Kept (∃ N O l s, N ≤ 0 ∧ Sts W w3 (.slice ao5 k cp5) (.slice ao6 k cp6) (M.map p5) (M.map p6) (M.filterMap id ++ [⟨R0, R2, k, N, O, l, s⟩])) := ⟨_, _, _, _, Nat.le_refl _, hS3⟩
          clear mR hb2 hb3 hr2 hf3 hm3 hPf hO hS3 hR0 hc1 hc3
          go_wp2
          go_loopw [52] (fun i wr => ∃ j : Nat, j ≤ q ∧ i = .int .i64 j ∧ Kept (∃ N O l s, N ≤ j ∧ Sts W wr (.slice ao5 k cp5) (.slice ao6 k cp6) (M.map p5) (M.map p6) (M.filterMap id ++ [⟨R0, R2, k, N, O, l, s⟩]))) (fun i _ => q - (intOf i).toNat)
          case atStart => exact ⟨0, Nat.zero_le _, rfl, F0⟩
          case round =>
            clear F0
            obtain ⟨j, hj, rfl, KF⟩ := hrel
            obtain ⟨N, O, l, s, hNj, hSf⟩ := KF.out
            have HSF := keep hSf
            have HNJ := keep hNj
            clear hSf hNj KF
            by_cases hjl : j < q
            · have hjz : (j : Int) < (q : Int) := by omega
              have hj0 : (0 : Int) ≤ (j : Int) := by omega
              have hqb := HQB.out
              have hwj : IntKind.i64.wrap ((j : Int) + 1) = (j : Int) + 1 := by rw [IntKind.wrap_i64]; omega
              obtain ⟨a3, rfl, ha3, hsz, hc2⟩ := HT.out j (by rw [HQ.out]; exact hjl)
              have hc3 := (HSF.out.1.cell (p := a3.add j) (by rw [add_block]; exact ha3)).trans hc2
              obtain ⟨y, hy⟩ : ∃ y, Sk[j]'(by rw [HQ.out]; exact hjl) = y := ⟨_, rfl⟩
              rw [hy] at hc3
              have hp : Pf (hs k) N wr O R0 R2 k l s := (HSF.out.2.2.2.2.1 _ (List.mem_append_right _ (List.mem_singleton.2 rfl))).1
              have hsd : Kept (k < Dw.M) := by show k < 18446744073709551616; have := HK1.out; omega
              have hN1 : Kept (N + 1 ≤ 2600000000000) := by show N + 1 ≤ _; have := HNJ.out; omega
              have m1 := add_f hp hsd.out hN1.out y
              have HJL := keep hjl
              clear hp hy hc2 ha3 hsz hjl hqb
              go_wp2_with fail
              refine m1.mono ?_
              rintro _ w4 ⟨v4, O4, rfl, hmid, hF4⟩
              have HM4 := keep hmid
              have HF4 := keep hF4
              clear m1 hmid hF4 hc3
              go_wp2_with fail
              refine (add_m HM4.out hsd.out hN1.out).mono ?_
              rintro _ w5 ⟨v5', O5, l5, rfl, hP5, hF5⟩
              have F1 : Kept (∃ N O l s, N ≤ j + 1 ∧ Sts W w5 (.slice ao5 k cp5) (.slice ao6 k cp6) (M.map p5) (M.map p6) (M.filterMap id ++ [⟨R0, R2, k, N, O, l, s⟩])) := ⟨N + 1, O5, l5, _, by have := HNJ.out; omega, HSF.out.step (f' := ⟨R0, R2, k, N + 1, O5, l5, _⟩) hP5 (HF4.out.trans hF5)⟩
              clear hP5 hF5 HM4 HF4 HSF
              go_wp2
              go_roundw
              case measure => simp [intOf]; have := HJL.out; omega
              case rel => exact ⟨j + 1, by have := HJL.out; omega, by go_num, F1⟩
            · have hjz : ¬ (j : Int) < (q : Int) := by omega
              have hk9 := HK1.out
              obtain ⟨g5, c5, w1, r5, P5, G5, A5⟩ := pushF HSF.out.2.1 HSF.out.1.size (some ⟨R0, 0, none⟩) (by rw [List.length_map, HMK.out]; omega)
              have S1 := HSF.out.row5 P5 G5 (fun g hg => by cases hg; exact A5)
              obtain ⟨g6, c6, w2', r6, P6, G6, A6⟩ := pushR S1.2.2.1 S1.1.size (some ⟨R2, 0, none⟩) (by rw [List.length_map, HMK.out]; omega)
              have S2 := Stm.some (f := ⟨R0, R2, k, N, O, l, s⟩) (S1.row6 P6 G6 (fun g hg => by cases hg; exact A6)) HMN.out (by have := HNJ.out; have := HQB.out; show N ≤ _; omega)
              rw [List.length_map, HMK.out] at r5 r6 S2
              have R5 := keep r5
              have R6 := keep r6
              have I1 : Kept (∃ M : List (Option Itm), M.length = k + 1 ∧ Stm W w2' (.slice (some ⟨g5, 0, none⟩) (k + 1) c5) (.slice (some ⟨g6, 0, none⟩) (k + 1) c6) M) := ⟨M ++ [some ⟨R0, R2, k, N, O, l, s⟩], by rw [List.length_append, HMK.out]; rfl, by rw [List.length_map, HMK.out] at S2; exact S2⟩
              clear r5 r6 P5 P6 G5 G6 A5 A6 S1 S2 HSF hk9
              go_wp2_with (first | (show wpList _ _ _ ({ dst := some 66, op := Op.call { callee := Callee.builtin Builtin.append, args := _, argTypes := _ }, type := _, pos := _, after := _, guard := _ } :: _) _ _; refine wpL_app_run rfl (.tmp 63) (.tmp 65) 41 rfl _ _ _ rfl rfl R5.out ?_) | (show wpList _ _ _ ({ dst := some 70, op := Op.call { callee := Callee.builtin Builtin.append, args := _, argTypes := _ }, type := _, pos := _, after := _, guard := _ } :: _) _ _; refine wpL_app_run rfl (.tmp 67) (.tmp 69) 42 rfl _ _ _ rfl rfl R6.out ?_) | fail)
              go_roundw
              case measure => simp [intOf]; have := HLT.out; omega
              case rel => exact ⟨k + 1, _, _, _, _, by have := HLT.out; omega, by go_num, rfl, rfl, I1⟩
    · as_aux_lemma =>
        have hltz : ¬ (k : Int) < (n : Int) := by omega
        obtain rfl : k = n := by omega
        have hn1 := HN1.out
        obtain ⟨ao7, cp7, w1, r7, P7, b7⟩ := copyF HS.out.2.1 (by rw [List.length_map, HMK.out]; omega)
        rw [List.length_map, HMK.out] at r7 P7
        have R7 := keep r7
        have HG : Kept (Gv W w1 (.slice ao5 k cp5) (.slice ao6 k cp6) (.slice ao7 k cp7) M) := ⟨⟨HS.out.below b7, HMN.out⟩, _, P7⟩
        have HL : Kept (M.length ≤ 1048577) := by show M.length ≤ _; rw [HMK.out]; omega
        clear r7 P7 b7 HS HMN hlt hk
        go_wp2_with (first | (show wpList _ _ _ ({ dst := some 74, op := Op.call { callee := Callee.builtin Builtin.append, args := _, argTypes := _ }, type := _, pos := _, after := _, guard := _ } :: _) _ _; refine wpL_app_run rfl (.tmp 72) (.tmp 73) 41 rfl _ _ _ rfl rfl R7.out ?_) | fail)
        clear R7
        refine (HG.out.un HL.out).mono ?_
        rintro _ w2 ⟨va, La, rfl, ua, ka, b2⟩
        have UA := keep ua
        have KA2 := keep ka
        have B2 := keep b2
        have GA := keep (fun k (hk : va.ownBlock = some k) => (⟨(World.ownsRow.lt ka k hk).1, own_lt ka hk⟩ : w1.heap.size ≤ k ∧ k < w2.heap.size))
        clear ua ka b2
        go_wp2_with fail
        refine ((HG.out.below B2.out).itr HL.out).mono ?_
        rintro _ w3 ⟨vb, Lb, rfl, ub, kb, b3⟩
        have UB := keep ub
        have KA3 := keep (ks_bel KA2.out b3)
        have KB3 := keep kb
        have B3 := keep (bup B2.out b3)
        have SZ23 : w2.heap.size ≤ w3.heap.size := b3.size
        have GB := keep (fun k (hk : vb.ownBlock = some k) => (⟨(World.ownsRow.lt kb k hk).1, own_lt kb hk⟩ : w2.heap.size ≤ k ∧ k < w3.heap.size))
        clear ub kb b3 KA2
        go_wp2_with fail
        refine ((HG.out.below B3.out).dif HL.out).mono ?_
        rintro _ w4 ⟨vc, Lc, rfl, uc, kc, b4⟩
        have UC := keep uc
        have KA4 := keep (ks_bel KA3.out b4)
        have KB4 := keep (ks_bel KB3.out b4)
        have KC4 := keep kc
        have B4 := keep (bup B3.out b4)
        have SZ34 : w3.heap.size ≤ w4.heap.size := b4.size
        have GC := keep (fun k (hk : vc.ownBlock = some k) => (⟨(World.ownsRow.lt kc k hk).1, own_lt kc hk⟩ : w3.heap.size ≤ k ∧ k < w4.heap.size))
        clear uc kc b4 KA3 KB3
        go_wp2_with fail
        refine ((HG.out.below B4.out).un HL.out).mono ?_
        rintro _ w5 ⟨vd, Ld, rfl, ud, kd, b5⟩
        have UD := keep ud
        have KA := keep (ks_bel KA4.out b5)
        have KB := keep (ks_bel KB4.out b5)
        have KC := keep (ks_bel KC4.out b5)
        have KD := keep kd
        have B5 := keep (bup B4.out b5)
        have SZ : Kept (w1.heap.size ≤ w2.heap.size ∧ w2.heap.size ≤ w3.heap.size ∧ w3.heap.size ≤ w4.heap.size) := ⟨B2.out.size, SZ23, SZ34⟩
        clear ud kd b5 KA4 KB4 KC4
        go_wp2_with fail
        refine ((HG.out.below B5.out).run HL.out).mono ?_
        rintro _ w6 ⟨vu, Lu, rfl, uu, ku, b6⟩
        rw [UA.out.one uu] at ku
        have KU := keep ku
        have B6 := keep (bup B5.out b6)
        have KA6 := keep (ks_bel KA.out b6)
        have KB6 := keep (ks_bel KB.out b6)
        have KC6 := keep (ks_bel KC.out b6)
        have KD6 := keep (ks_bel KD.out b6)
        clear uu ku b6 KA KB KC KD
        go_wp2_with fail
        refine (same_any w6 _ _ _ _ La KA6.out KU.out).mono ?_
        rintro _ w7 ⟨rfl, b7⟩
        have B7 := keep (bup B6.out b7)
        have KA := keep (ks_bel KA6.out b7)
        have KB := keep (ks_bel KB6.out b7)
        have KC := keep (ks_bel KC6.out b7)
        have KD := keep (ks_bel KD6.out b7)
        clear b7 KA6 KB6 KC6 KD6 KU
        go_wp2_with fail
        refine ((HG.out.below B7.out).ritr HL.out).mono ?_
        rintro _ w8 ⟨vu, Lu, rfl, uu, ku, b8⟩
        rw [UB.out.one uu] at ku
        have KU := keep ku
        have B8 := keep (bup B7.out b8)
        have KA8 := keep (ks_bel KA.out b8)
        have KB8 := keep (ks_bel KB.out b8)
        have KC8 := keep (ks_bel KC.out b8)
        have KD8 := keep (ks_bel KD.out b8)
        clear uu ku b8 KA KB KC KD
        go_wp2_with fail
        refine (same_any w8 _ _ _ _ Lb KB8.out KU.out).mono ?_
        rintro _ w9 ⟨rfl, b9⟩
        have B9 := keep (bup B8.out b9)
        have KA := keep (ks_bel KA8.out b9)
        have KB := keep (ks_bel KB8.out b9)
        have KC := keep (ks_bel KC8.out b9)
        have KD := keep (ks_bel KD8.out b9)
        clear b9 KA8 KB8 KC8 KD8 KU
        go_wp2_with fail
        refine ((HG.out.below B9.out).rdif HL.out).mono ?_
        rintro _ w10 ⟨vu, Lu, rfl, uu, ku, b10⟩
        rw [UC.out.one uu] at ku
        have KU := keep ku
        have B10 := keep (bup B9.out b10)
        have KA10 := keep (ks_bel KA.out b10)
        have KB10 := keep (ks_bel KB.out b10)
        have KC10 := keep (ks_bel KC.out b10)
        have KD10 := keep (ks_bel KD.out b10)
        clear uu ku b10 KA KB KC KD
        go_wp2_with fail
        refine (same_any w10 _ _ _ _ Lc KC10.out KU.out).mono ?_
        rintro _ w11 ⟨rfl, b11⟩
        have B11 := keep (bup B10.out b11)
        have KA := keep (ks_bel KA10.out b11)
        have KB := keep (ks_bel KB10.out b11)
        have KC := keep (ks_bel KC10.out b11)
        have KD := keep (ks_bel KD10.out b11)
        clear b11 KA10 KB10 KC10 KD10 KU
        go_wp2_with fail
        refine (spoil_any w11 va La (tx_ks KA.out) (UA.out.few HG.out.alls HL.out)).mono ?_
        rintro _ w12 ⟨rfl, f12⟩
        have B12 := keep (f12.bel B11.out (fun k hk => (GA.out k hk).1))
        have KB12 := keep (fu_ks KB.out f12 (fun k hk => (GA.out k hk).2))
        have KC12 := keep (fu_ks KC.out f12 (fun k hk => Nat.lt_of_lt_of_le (GA.out k hk).2 SZ.out.2.1))
        have KD12 := keep (fu_ks KD.out f12 (fun k hk => Nat.lt_of_lt_of_le (GA.out k hk).2 (Nat.le_trans SZ.out.2.1 SZ.out.2.2)))
        clear f12 KA KB KC KD
        go_wp2_with fail
        refine (spoil_any w12 vb Lb (tx_ks KB12.out) (UB.out.few HG.out.alls HL.out)).mono ?_
        rintro _ w13 ⟨rfl, f13⟩
        have B13 := keep (f13.bel B12.out (fun k hk => Nat.le_trans SZ.out.1 (GB.out k hk).1))
        have KC13 := keep (fu_ks KC12.out f13 (fun k hk => (GB.out k hk).2))
        have KD13 := keep (fu_ks KD12.out f13 (fun k hk => Nat.lt_of_lt_of_le (GB.out k hk).2 SZ.out.2.2))
        clear f13 KB12 KC12 KD12
        go_wp2_with fail
        refine (spoil_any w13 vc Lc (tx_ks KC13.out) (UC.out.few HG.out.alls HL.out)).mono ?_
        rintro _ w14 ⟨rfl, f14⟩
        have B14 := keep (f14.bel B13.out (fun k hk => Nat.le_trans SZ.out.1 (Nat.le_trans SZ.out.2.1 (GC.out k hk).1)))
        have KD14 := keep (fu_ks KD13.out f14 (fun k hk => (GC.out k hk).2))
        clear f14 KC13 KD13
        go_wp2_with fail
        refine ((HG.out.below B14.out).run HL.out).mono ?_
        rintro _ w15 ⟨vu, Lu, rfl, uu, ku, b15⟩
        rw [UD.out.one uu] at ku
        have KU := keep ku
        have B15 := keep (bup B14.out b15)
        have KD15 := keep (ks_bel KD14.out b15)
        clear uu ku b15 KD14
        go_wp2_with fail
        refine (same_any w15 _ _ _ _ Ld KD15.out KU.out).mono ?_
        rintro _ w16 ⟨rfl, b16⟩
        have B16 := keep (bup B15.out b16)
        clear b16 KD15 KU GA GB GC UA UB UC UD
        as_aux_lemma =>
          go_wp2
          go_loopw [115] (fun i wr => ∃ j : Nat, j ≤ k ∧ i = .int .i64 j ∧ Kept (Below w1.heap.size w1 wr)) (fun i _ => k - (intOf i).toNat)
          case atStart => exact ⟨0, Nat.zero_le _, rfl, B16⟩
          case round =>
            clear B16
            obtain ⟨i, hi, rfl, KB⟩ := hrel
            by_cases hil : i < k
            · have hiz : (i : Int) < (k : Int) := by omega
              have hi0 : (0 : Int) ≤ (i : Int) := by omega
              have hwi : IntKind.i64.wrap ((i : Int) + 1) = (i : Int) + 1 := by rw [IntKind.wrap_i64]; have := HN1.out; omega
              obtain ⟨o, ho⟩ : ∃ o, M[i]? = some o := ⟨_, List.getElem?_eq_getElem (by rw [HMK.out]; exact hil)⟩
              have hG := HG.out.below KB.out
              obtain ⟨Bg, hPg⟩ := hG.2
              obtain ⟨gg, rfl, d1, _⟩ := po_at hPg (j := i) (x := p5 o) (by rw [List.getElem?_map, ho]; rfl)
              obtain ⟨g5, rfl, d2, _⟩ := po_at hG.1.1.2.1 (j := i) (x := p5 o) (by rw [List.getElem?_map, ho]; rfl)
              obtain ⟨g6, rfl, d3, _⟩ := po_at hG.1.1.2.2.1 (j := i) (x := p6 o) (by rw [List.getElem?_map, ho]; rfl)
              have hA := hG.alls
              have hmem := List.mem_of_getElem? ho
              have hb0 : Below wr.heap.size wr wr.drew := (Below.refl wr.heap.size wr).drew
              have HIL := keep hil
              cases o with
              | none =>
                have MS := keep trivial
                have MC := keep trivial
                dsimp only [p5, p6, Option.map] at d1 d2 d3
                clear hPg hG hA hmem ho hil
                as_aux_lemma =>
                  clear MS MC
                  go_wp2_with fail
                  refine wp_region_held_drew (S := fun Wd => Wd.cell? ⟨gg, i, none⟩ = some (.pointer none) ∧ Wd.cell? ⟨g5, i, none⟩ = some (.pointer none)) (by kernel_rfl) ⟨(by simpa using d1), (by simpa using d2)⟩ (fun hHeld => ?_)
                  refine wpAnyH_take (i := 0) (oi := { dst := some 118, op := _, type := _, pos := _, after := _, guard := _ }) (v := ?v1) rfl (by kernel_rfl) (by kernel_rfl) (by kernel_rfl) (fun _ _ _ h => h) (Or.inl ⟨by rfl, ?hy1⟩) (by assumption) ?rest1
                  case hy1 => (intro w hSw; obtain ⟨q1,q2⟩ := hSw; go_simp; try with_reducible rfl)
                  try simp only [Act.put, List.setIfInBounds_toArray, List.set_cons_zero, List.set_cons_succ]
                  refine wpAnyH_take (i := 1) (oi := { dst := some 119, op := _, type := _, pos := _, after := _, guard := _ }) (v := ?v2) rfl (by kernel_rfl) (by kernel_rfl) (by kernel_rfl) (fun _ _ _ h => h) (Or.inl ⟨by rfl, ?hy2⟩) (by assumption) ?rest2
                  case hy2 => (intro w hSw; obtain ⟨q1,q2⟩ := hSw; go_simp; try with_reducible rfl)
                  try simp only [Act.put, List.setIfInBounds_toArray, List.set_cons_zero, List.set_cons_succ]
                  refine wpAnyH_take (i := 2) (oi := { dst := some 120, op := _, type := _, pos := _, after := _, guard := _ }) (v := ?v3) rfl (by kernel_rfl) (by kernel_rfl) (by kernel_rfl) (fun _ _ _ h => h) (Or.inl ⟨by rfl, ?hy3⟩) (by assumption) ?rest3
                  case hy3 => (intro w hSw; obtain ⟨q1,q2⟩ := hSw; go_simp; try with_reducible rfl)
                  try simp only [Act.put, List.setIfInBounds_toArray, List.set_cons_zero, List.set_cons_succ]
                  refine wpAnyH_take (i := 3) (oi := { dst := some 121, op := _, type := _, pos := _, after := _, guard := _ }) (v := ?v4) rfl (by kernel_rfl) (by kernel_rfl) (by kernel_rfl) (fun _ _ _ h => h) (Or.inl ⟨by rfl, ?hy4⟩) (by assumption) ?rest4
                  case hy4 => (intro w hSw; obtain ⟨q1,q2⟩ := hSw; go_simp; try with_reducible rfl)
                  try simp only [Act.put, List.setIfInBounds_toArray, List.set_cons_zero, List.set_cons_succ]
                  refine wpAnyH_take (i := 4) (oi := { dst := some 122, op := _, type := _, pos := _, after := _, guard := _ }) (v := ?v5) rfl (by kernel_rfl) (by kernel_rfl) (by kernel_rfl) (fun _ _ _ h => h) (Or.inl ⟨by rfl, ?hy5⟩) (by assumption) ?rest5
                  case hy5 => (intro w hSw; obtain ⟨q1,q2⟩ := hSw; go_simp; try with_reducible rfl)
                  try simp only [Act.put, List.setIfInBounds_toArray, List.set_cons_zero, List.set_cons_succ]
                  refine wpAnyH_take (i := 5) (oi := { dst := some 123, op := _, type := _, pos := _, after := _, guard := _ }) (v := ?v6) rfl (by kernel_rfl) (by kernel_rfl) (by kernel_rfl) (fun _ _ _ h => h) (Or.inl ⟨by rfl, ?hy6⟩) (by assumption) ?rest6
                  case hy6 => (intro w hSw; obtain ⟨q1,q2⟩ := hSw; go_simp; try with_reducible rfl)
                  try simp only [Act.put, List.setIfInBounds_toArray, List.set_cons_zero, List.set_cons_succ]
                  refine wpAnyH_take (i := 6) (oi := { dst := some 124, op := _, type := _, pos := _, after := _, guard := _ }) (v := ?v7) rfl (by kernel_rfl) (by kernel_rfl) (by kernel_rfl) (fun _ _ _ h => h) (Or.inl ⟨by rfl, ?hy7⟩) (by assumption) ?rest7
                  case hy7 => (intro w hSw; obtain ⟨q1,q2⟩ := hSw; go_simp; try with_reducible rfl)
                  try simp only [Act.put, List.setIfInBounds_toArray, List.set_cons_zero, List.set_cons_succ]
                  refine wpAnyH_take (i := 7) (oi := { dst := some 125, op := _, type := _, pos := _, after := _, guard := _ }) (v := ?v8) rfl (by kernel_rfl) (by kernel_rfl) (by kernel_rfl) (fun _ _ _ h => h) (Or.inl ⟨by rfl, ?hy8⟩) (by assumption) ?rest8
                  case hy8 => (intro w hSw; obtain ⟨q1,q2⟩ := hSw; go_simp; try with_reducible rfl)
                  try simp only [Act.put, List.setIfInBounds_toArray, List.set_cons_zero, List.set_cons_succ]
                  refine wpAnyH_take (i := 8) (oi := { dst := some 126, op := _, type := _, pos := _, after := _, guard := _ }) (v := (.bool false)) rfl (by kernel_rfl) (by kernel_rfl) (by kernel_rfl) (fun _ _ _ h => h) (Or.inl ⟨by rfl, ?hy9⟩) (by assumption) ?rest9
                  case hy9 => (intro w hSw; obtain ⟨q1,q2⟩ := hSw; first | (go_simp; done) | (go_simp; simp [*]; done) | (simp [*]; go_simp; done))
                  try simp only [Act.put, List.setIfInBounds_toArray, List.set_cons_zero, List.set_cons_succ]
                  refine wpAnyH_take (i := 9) (oi := { dst := some 127, op := _, type := _, pos := _, after := _, guard := _ }) (v := (.bool false)) rfl (by kernel_rfl) (by kernel_rfl) (by kernel_rfl) (fun _ _ _ h => h) (Or.inl ⟨by rfl, ?hy10⟩) (by assumption) ?rest10
                  case hy10 => (intro w hSw; obtain ⟨q1,q2⟩ := hSw; first | (go_simp; done) | (go_simp; simp [*]; done) | (simp [*]; go_simp; done))
                  try simp only [Act.put, List.setIfInBounds_toArray, List.set_cons_zero, List.set_cons_succ]
                  refine wpAnyH_take (i := 10) (oi := { dst := some 128, op := _, type := _, pos := _, after := _, guard := _ }) (v := ?v11) rfl (by kernel_rfl) (by kernel_rfl) (by kernel_rfl) (fun _ _ _ h => h) (Or.inl ⟨by rfl, ?hy11⟩) (by assumption) ?rest11
                  case hy11 => (intro w hSw; obtain ⟨q1,q2⟩ := hSw; go_simp; try with_reducible rfl)
                  try simp only [Act.put, List.setIfInBounds_toArray, List.set_cons_zero, List.set_cons_succ]
                  refine wpAnyH_take (i := 11) (oi := { dst := some 129, op := _, type := _, pos := _, after := _, guard := _ }) (v := ?v12) rfl (by kernel_rfl) (by kernel_rfl) (by kernel_rfl) (fun _ _ _ h => h) (Or.inl ⟨by rfl, ?hy12⟩) (by assumption) ?rest12
                  case hy12 => (intro w hSw; obtain ⟨q1,q2⟩ := hSw; go_simp; try with_reducible rfl)
                  try simp only [Act.put, List.setIfInBounds_toArray, List.set_cons_zero, List.set_cons_succ]
                  refine wpAnyH_take (i := 12) (oi := { dst := some 130, op := _, type := _, pos := _, after := _, guard := _ }) (v := ?v13) rfl (by kernel_rfl) (by kernel_rfl) (by kernel_rfl) (fun _ _ _ h => h) (Or.inl ⟨by rfl, ?hy13⟩) (by assumption) ?rest13
                  case hy13 => (intro w hSw; obtain ⟨q1,q2⟩ := hSw; go_simp; try with_reducible rfl)
                  try simp only [Act.put, List.setIfInBounds_toArray, List.set_cons_zero, List.set_cons_succ]
                  refine wpAnyH_take (i := 13) (oi := { dst := some 131, op := _, type := _, pos := _, after := _, guard := _ }) (v := ?v14) rfl (by kernel_rfl) (by kernel_rfl) (by kernel_rfl) (fun _ _ _ h => h) (Or.inl ⟨by rfl, ?hy14⟩) (by assumption) ?rest14
                  case hy14 => (intro w hSw; obtain ⟨q1,q2⟩ := hSw; go_simp; try with_reducible rfl)
                  try simp only [Act.put, List.setIfInBounds_toArray, List.set_cons_zero, List.set_cons_succ]
                  refine wpAnyH_take (i := 14) (oi := { dst := some 132, op := _, type := _, pos := _, after := _, guard := _ }) (v := (.bool false)) rfl (by kernel_rfl) (by kernel_rfl) (by kernel_rfl) (fun _ _ _ h => h) (Or.inl ⟨by rfl, ?hy15⟩) (by assumption) ?rest15
                  case hy15 => (intro w hSw; obtain ⟨q1,q2⟩ := hSw; first | (go_simp; done) | (go_simp; simp [*]; done) | (simp [*]; go_simp; done))
                  try simp only [Act.put, List.setIfInBounds_toArray, List.set_cons_zero, List.set_cons_succ]
                  refine wpAnyH_take (i := 15) (oi := { dst := some 133, op := _, type := _, pos := _, after := _, guard := _ }) (v := (.bool false)) rfl (by kernel_rfl) (by kernel_rfl) (by kernel_rfl) (fun _ _ _ h => h) (Or.inl ⟨by rfl, ?hy16⟩) (by assumption) ?rest16
                  case hy16 => (intro w hSw; obtain ⟨q1,q2⟩ := hSw; first | (go_simp; done) | (go_simp; simp [*]; done) | (simp [*]; go_simp; done))
                  try simp only [Act.put, List.setIfInBounds_toArray, List.set_cons_zero, List.set_cons_succ]
                  refine wpAnyH_take (i := 16) (oi := { dst := some 134, op := _, type := _, pos := _, after := _, guard := _ }) (v := _) rfl (by kernel_rfl) (by kernel_rfl) (by kernel_rfl) (fun _ _ _ h => h) (Or.inr ⟨by rfl, rfl⟩) (by assumption) ?_
                  try simp only [Act.put, List.setIfInBounds_toArray, List.set_cons_zero, List.set_cons_succ]
                  refine wpAnyH_take (i := 17) (oi := { dst := some 135, op := _, type := _, pos := _, after := _, guard := _ }) (v := _) rfl (by kernel_rfl) (by kernel_rfl) (by kernel_rfl) (fun _ _ _ h => h) (Or.inr ⟨by rfl, rfl⟩) (by assumption) ?_
                  try simp only [Act.put, List.setIfInBounds_toArray, List.set_cons_zero, List.set_cons_succ]
                  refine wpAnyH_take (i := 18) (oi := { dst := some 136, op := _, type := _, pos := _, after := _, guard := _ }) (v := _) rfl (by kernel_rfl) (by kernel_rfl) (by kernel_rfl) (fun _ _ _ h => h) (Or.inr ⟨by rfl, rfl⟩) (by assumption) ?_
                  try simp only [Act.put, List.setIfInBounds_toArray, List.set_cons_zero, List.set_cons_succ]
                  refine wpAnyH_take (i := 19) (oi := { dst := some 137, op := _, type := _, pos := _, after := _, guard := _ }) (v := _) rfl (by kernel_rfl) (by kernel_rfl) (by kernel_rfl) (fun _ _ _ h => h) (Or.inr ⟨by rfl, rfl⟩) (by assumption) ?_
                  try simp only [Act.put, List.setIfInBounds_toArray, List.set_cons_zero, List.set_cons_succ]
                  refine wpAnyH_take (i := 20) (oi := { dst := some 138, op := _, type := _, pos := _, after := _, guard := _ }) (v := _) rfl (by kernel_rfl) (by kernel_rfl) (by kernel_rfl) (fun _ _ _ h => h) (Or.inr ⟨by rfl, rfl⟩) (by assumption) ?_
                  try simp only [Act.put, List.setIfInBounds_toArray, List.set_cons_zero, List.set_cons_succ]
                  refine wpAnyH_take (i := 21) (oi := { dst := some 139, op := _, type := _, pos := _, after := _, guard := _ }) (v := _) rfl (by kernel_rfl) (by kernel_rfl) (by kernel_rfl) (fun _ _ _ h => h) (Or.inr ⟨by rfl, rfl⟩) (by assumption) ?_
                  try simp only [Act.put, List.setIfInBounds_toArray, List.set_cons_zero, List.set_cons_succ]
                  refine wpAnyH_take (i := 22) (oi := { dst := some 140, op := _, type := _, pos := _, after := _, guard := _ }) (v := _) rfl (by kernel_rfl) (by kernel_rfl) (by kernel_rfl) (fun _ _ _ h => h) (Or.inr ⟨by rfl, rfl⟩) (by assumption) ?_
                  try simp only [Act.put, List.setIfInBounds_toArray, List.set_cons_zero, List.set_cons_succ]
                  refine wpAnyH_take (i := 23) (oi := { dst := some 141, op := _, type := _, pos := _, after := _, guard := _ }) (v := _) rfl (by kernel_rfl) (by kernel_rfl) (by kernel_rfl) (fun _ _ _ h => h) (Or.inr ⟨by rfl, rfl⟩) (by assumption) ?_
                  try simp only [Act.put, List.setIfInBounds_toArray, List.set_cons_zero, List.set_cons_succ]
                  refine wpAnyH_take (i := 24) (oi := { dst := some 142, op := _, type := _, pos := _, after := _, guard := _ }) (v := _) rfl (by kernel_rfl) (by kernel_rfl) (by kernel_rfl) (fun _ _ _ h => h) (Or.inr ⟨by rfl, rfl⟩) (by assumption) ?_
                  try simp only [Act.put, List.setIfInBounds_toArray, List.set_cons_zero, List.set_cons_succ]
                  refine wpAnyH_take (i := 25) (oi := { dst := some 143, op := _, type := _, pos := _, after := _, guard := _ }) (v := _) rfl (by kernel_rfl) (by kernel_rfl) (by kernel_rfl) (fun _ _ _ h => h) (Or.inr ⟨by rfl, rfl⟩) (by assumption) ?_
                  try simp only [Act.put, List.setIfInBounds_toArray, List.set_cons_zero, List.set_cons_succ]
                  refine wpAnyH_take (i := 26) (oi := { dst := some 144, op := _, type := _, pos := _, after := _, guard := _ }) (v := _) rfl (by kernel_rfl) (by kernel_rfl) (by kernel_rfl) (fun _ _ _ h => h) (Or.inr ⟨by rfl, rfl⟩) (by assumption) ?_
                  try simp only [Act.put, List.setIfInBounds_toArray, List.set_cons_zero, List.set_cons_succ]
                  refine wpAnyH_take (i := 27) (oi := { dst := some 145, op := _, type := _, pos := _, after := _, guard := _ }) (v := _) rfl (by kernel_rfl) (by kernel_rfl) (by kernel_rfl) (fun _ _ _ h => h) (Or.inr ⟨by rfl, rfl⟩) (by assumption) ?_
                  try simp only [Act.put, List.setIfInBounds_toArray, List.set_cons_zero, List.set_cons_succ]
                  refine wpAnyH_take (i := 28) (oi := { dst := some 146, op := _, type := _, pos := _, after := _, guard := _ }) (v := _) rfl (by kernel_rfl) (by kernel_rfl) (by kernel_rfl) (fun _ _ _ h => h) (Or.inr ⟨by rfl, rfl⟩) (by assumption) ?_
                  try simp only [Act.put, List.setIfInBounds_toArray, List.set_cons_zero, List.set_cons_succ]
                  refine wpAnyH_take (i := 29) (oi := { dst := some 147, op := _, type := _, pos := _, after := _, guard := _ }) (v := _) rfl (by kernel_rfl) (by kernel_rfl) (by kernel_rfl) (fun _ _ _ h => h) (Or.inr ⟨by rfl, rfl⟩) (by assumption) ?_
                  try simp only [Act.put, List.setIfInBounds_toArray, List.set_cons_zero, List.set_cons_succ]
                  refine wpAnyH_take (i := 30) (oi := { dst := some 148, op := _, type := _, pos := _, after := _, guard := _ }) (v := _) rfl (by kernel_rfl) (by kernel_rfl) (by kernel_rfl) (fun _ _ _ h => h) (Or.inr ⟨by rfl, rfl⟩) (by assumption) ?_
                  try simp only [Act.put, List.setIfInBounds_toArray, List.set_cons_zero, List.set_cons_succ]
                  refine wpAnyH_take (i := 31) (oi := { dst := some 149, op := _, type := _, pos := _, after := _, guard := _ }) (v := _) rfl (by kernel_rfl) (by kernel_rfl) (by kernel_rfl) (fun _ _ _ h => h) (Or.inr ⟨by rfl, rfl⟩) (by assumption) ?_
                  try simp only [Act.put, List.setIfInBounds_toArray, List.set_cons_zero, List.set_cons_succ]
                  refine wpAnyH_take (i := 32) (oi := { dst := some 150, op := _, type := _, pos := _, after := _, guard := _ }) (v := _) rfl (by kernel_rfl) (by kernel_rfl) (by kernel_rfl) (fun _ _ _ h => h) (Or.inr ⟨by rfl, rfl⟩) (by assumption) ?_
                  try simp only [Act.put, List.setIfInBounds_toArray, List.set_cons_zero, List.set_cons_succ]
                  refine wpAnyH_take (i := 33) (oi := { dst := some 151, op := _, type := _, pos := _, after := _, guard := _ }) (v := _) rfl (by kernel_rfl) (by kernel_rfl) (by kernel_rfl) (fun _ _ _ h => h) (Or.inr ⟨by rfl, rfl⟩) (by assumption) ?_
                  try simp only [Act.put, List.setIfInBounds_toArray, List.set_cons_zero, List.set_cons_succ]
                  refine wpAnyH_take (i := 34) (oi := { dst := some 152, op := _, type := _, pos := _, after := _, guard := _ }) (v := _) rfl (by kernel_rfl) (by kernel_rfl) (by kernel_rfl) (fun _ _ _ h => h) (Or.inr ⟨by rfl, rfl⟩) (by assumption) ?_
                  try simp only [Act.put, List.setIfInBounds_toArray, List.set_cons_zero, List.set_cons_succ]
                  refine wpAnyH_take (i := 35) (oi := { dst := some 153, op := _, type := _, pos := _, after := _, guard := _ }) (v := _) rfl (by kernel_rfl) (by kernel_rfl) (by kernel_rfl) (fun _ _ _ h => h) (Or.inr ⟨by rfl, rfl⟩) (by assumption) ?_
                  try simp only [Act.put, List.setIfInBounds_toArray, List.set_cons_zero, List.set_cons_succ]
                  refine wpAnyH_take (i := 36) (oi := { dst := some 154, op := _, type := _, pos := _, after := _, guard := _ }) (v := _) rfl (by kernel_rfl) (by kernel_rfl) (by kernel_rfl) (fun _ _ _ h => h) (Or.inr ⟨by rfl, rfl⟩) (by assumption) ?_
                  try simp only [Act.put, List.setIfInBounds_toArray, List.set_cons_zero, List.set_cons_succ]
                  refine wpAnyH_take (i := 37) (oi := { dst := some 155, op := _, type := _, pos := _, after := _, guard := _ }) (v := _) rfl (by kernel_rfl) (by kernel_rfl) (by kernel_rfl) (fun _ _ _ h => h) (Or.inr ⟨by rfl, rfl⟩) (by assumption) ?_
                  try simp only [Act.put, List.setIfInBounds_toArray, List.set_cons_zero, List.set_cons_succ]
                  refine wpAnyH_take (i := 38) (oi := { dst := some 156, op := _, type := _, pos := _, after := _, guard := _ }) (v := (.bool false)) rfl (by kernel_rfl) (by kernel_rfl) (by kernel_rfl) (fun _ _ _ h => h) (Or.inl ⟨by rfl, ?hy17⟩) (by assumption) ?rest17
                  case hy17 => (intro w hSw; first | (go_simp; done) | (go_simp; simp [*]; done) | (simp [*]; go_simp; done))
                  try simp only [Act.put, List.setIfInBounds_toArray, List.set_cons_zero, List.set_cons_succ]
                  refine wpAnyH_take (i := 39) (oi := { dst := some 157, op := _, type := _, pos := _, after := _, guard := _ }) (v := (.bool false)) rfl (by kernel_rfl) (by kernel_rfl) (by kernel_rfl) (fun _ _ _ h => h) (Or.inl ⟨by rfl, ?hy18⟩) (by assumption) ?rest18
                  case hy18 => (intro w hSw; first | (go_simp; done) | (go_simp; simp [*]; done) | (simp [*]; go_simp; done))
                  try simp only [Act.put, List.setIfInBounds_toArray, List.set_cons_zero, List.set_cons_succ]
                  refine wpAnyH_done (by kernel_rfl) ?_ _
                  clear hHeld d1 d2 d3
                  have KB2 := keep (bup KB.out hb0)
                  clear hb0 KB
                  go_wp2
                  go_roundw
                  case measure => simp [intOf]; have := HIL.out; omega
                  case rel => exact ⟨i + 1, by have := HIL.out; omega, by go_num, KB2⟩
              | some f =>
                obtain ⟨hL, hN⟩ := hA _ hmem f rfl
                have MS := keep (fun (w : World) (hb : Below wr.heap.size wr w) => stands_any (hL.below hb : Pf _ _ _ _ _ _ _ _ _) (by omega))
                have MC := keep (fun (w : World) (hb : Below wr.heap.size wr w) => scans_any (hL.below hb : Pf _ _ _ _ _ _ _ _ _) hN 0 (by decide) 2)
                dsimp only [p5, p6, Option.map] at d1 d2 d3
                clear hPg hG hA hmem ho hil hL hN
                as_aux_lemma =>
                  go_wp2_with fail
                  refine wp_region_held_drew (S := fun Wd => Wd.cell? ⟨gg, i, none⟩ = some (.pointer (some ⟨f.R, 0, none⟩)) ∧ Wd.cell? ⟨g5, i, none⟩ = some (.pointer (some ⟨f.R, 0, none⟩)) ∧ Wd.cell? ⟨g6, i, none⟩ = some (.pointer (some ⟨f.R2, 0, none⟩))) (by kernel_rfl) ⟨(by simpa using d1), (by simpa using d2), (by simpa using d3)⟩ (fun hHeld => ?_)
                  refine wpAnyH_take (i := 0) (oi := { dst := some 118, op := _, type := _, pos := _, after := _, guard := _ }) (v := ?v19) rfl (by kernel_rfl) (by kernel_rfl) (by kernel_rfl) (fun _ _ _ h => h) (Or.inl ⟨by rfl, ?hy19⟩) (by assumption) ?rest19
                  case hy19 => (intro w hSw; obtain ⟨q1,q2,q3⟩ := hSw; go_simp; try with_reducible rfl)
                  try simp only [Act.put, List.setIfInBounds_toArray, List.set_cons_zero, List.set_cons_succ]
                  refine wpAnyH_take (i := 1) (oi := { dst := some 119, op := _, type := _, pos := _, after := _, guard := _ }) (v := ?v20) rfl (by kernel_rfl) (by kernel_rfl) (by kernel_rfl) (fun _ _ _ h => h) (Or.inl ⟨by rfl, ?hy20⟩) (by assumption) ?rest20
                  case hy20 => (intro w hSw; obtain ⟨q1,q2,q3⟩ := hSw; go_simp; try with_reducible rfl)
                  try simp only [Act.put, List.setIfInBounds_toArray, List.set_cons_zero, List.set_cons_succ]
                  refine wpAnyH_take (i := 2) (oi := { dst := some 120, op := _, type := _, pos := _, after := _, guard := _ }) (v := ?v21) rfl (by kernel_rfl) (by kernel_rfl) (by kernel_rfl) (fun _ _ _ h => h) (Or.inl ⟨by rfl, ?hy21⟩) (by assumption) ?rest21
                  case hy21 => (intro w hSw; obtain ⟨q1,q2,q3⟩ := hSw; go_simp; try with_reducible rfl)
                  try simp only [Act.put, List.setIfInBounds_toArray, List.set_cons_zero, List.set_cons_succ]
                  refine wpAnyH_take (i := 3) (oi := { dst := some 121, op := _, type := _, pos := _, after := _, guard := _ }) (v := ?v22) rfl (by kernel_rfl) (by kernel_rfl) (by kernel_rfl) (fun _ _ _ h => h) (Or.inl ⟨by rfl, ?hy22⟩) (by assumption) ?rest22
                  case hy22 => (intro w hSw; obtain ⟨q1,q2,q3⟩ := hSw; go_simp; try with_reducible rfl)
                  try simp only [Act.put, List.setIfInBounds_toArray, List.set_cons_zero, List.set_cons_succ]
                  refine wpAnyH_take (i := 4) (oi := { dst := some 122, op := _, type := _, pos := _, after := _, guard := _ }) (v := ?v23) rfl (by kernel_rfl) (by kernel_rfl) (by kernel_rfl) (fun _ _ _ h => h) (Or.inl ⟨by rfl, ?hy23⟩) (by assumption) ?rest23
                  case hy23 => (intro w hSw; obtain ⟨q1,q2,q3⟩ := hSw; go_simp; try with_reducible rfl)
                  try simp only [Act.put, List.setIfInBounds_toArray, List.set_cons_zero, List.set_cons_succ]
                  refine wpAnyH_take (i := 5) (oi := { dst := some 123, op := _, type := _, pos := _, after := _, guard := _ }) (v := ?v24) rfl (by kernel_rfl) (by kernel_rfl) (by kernel_rfl) (fun _ _ _ h => h) (Or.inl ⟨by rfl, ?hy24⟩) (by assumption) ?rest24
                  case hy24 => (intro w hSw; obtain ⟨q1,q2,q3⟩ := hSw; go_simp; try with_reducible rfl)
                  try simp only [Act.put, List.setIfInBounds_toArray, List.set_cons_zero, List.set_cons_succ]
                  refine wpAnyH_take (i := 6) (oi := { dst := some 124, op := _, type := _, pos := _, after := _, guard := _ }) (v := ?v25) rfl (by kernel_rfl) (by kernel_rfl) (by kernel_rfl) (fun _ _ _ h => h) (Or.inl ⟨by rfl, ?hy25⟩) (by assumption) ?rest25
                  case hy25 => (intro w hSw; obtain ⟨q1,q2,q3⟩ := hSw; go_simp; try with_reducible rfl)
                  try simp only [Act.put, List.setIfInBounds_toArray, List.set_cons_zero, List.set_cons_succ]
                  refine wpAnyH_take (i := 7) (oi := { dst := some 125, op := _, type := _, pos := _, after := _, guard := _ }) (v := ?v26) rfl (by kernel_rfl) (by kernel_rfl) (by kernel_rfl) (fun _ _ _ h => h) (Or.inl ⟨by rfl, ?hy26⟩) (by assumption) ?rest26
                  case hy26 => (intro w hSw; obtain ⟨q1,q2,q3⟩ := hSw; go_simp; try with_reducible rfl)
                  try simp only [Act.put, List.setIfInBounds_toArray, List.set_cons_zero, List.set_cons_succ]
                  refine wpAnyH_take (i := 8) (oi := { dst := some 126, op := _, type := _, pos := _, after := _, guard := _ }) (v := .bool false) rfl (by kernel_rfl) (by kernel_rfl) (by kernel_rfl) (fun _ _ _ h => h) (Or.inl ⟨by rfl, ?hyp8⟩) (by assumption) ?restp8
                  case hyp8 => (intro w hSw; go_simp; rw [ne_ptr]; rfl)
                  try simp only [Act.put, List.setIfInBounds_toArray, List.set_cons_zero, List.set_cons_succ]
                  refine wpAnyH_take (i := 9) (oi := { dst := some 127, op := _, type := _, pos := _, after := _, guard := _ }) (v := (.bool false)) rfl (by kernel_rfl) (by kernel_rfl) (by kernel_rfl) (fun _ _ _ h => h) (Or.inl ⟨by rfl, ?hy27⟩) (by assumption) ?rest27
                  case hy27 => (intro w hSw; obtain ⟨q1,q2,q3⟩ := hSw; first | (go_simp; done) | (go_simp; simp [*]; done) | (simp [*]; go_simp; done))
                  try simp only [Act.put, List.setIfInBounds_toArray, List.set_cons_zero, List.set_cons_succ]
                  refine wpAnyH_take (i := 10) (oi := { dst := some 128, op := _, type := _, pos := _, after := _, guard := _ }) (v := ?v28) rfl (by kernel_rfl) (by kernel_rfl) (by kernel_rfl) (fun _ _ _ h => h) (Or.inl ⟨by rfl, ?hy28⟩) (by assumption) ?rest28
                  case hy28 => (intro w hSw; obtain ⟨q1,q2,q3⟩ := hSw; go_simp; try with_reducible rfl)
                  try simp only [Act.put, List.setIfInBounds_toArray, List.set_cons_zero, List.set_cons_succ]
                  refine wpAnyH_take (i := 11) (oi := { dst := some 129, op := _, type := _, pos := _, after := _, guard := _ }) (v := ?v29) rfl (by kernel_rfl) (by kernel_rfl) (by kernel_rfl) (fun _ _ _ h => h) (Or.inl ⟨by rfl, ?hy29⟩) (by assumption) ?rest29
                  case hy29 => (intro w hSw; obtain ⟨q1,q2,q3⟩ := hSw; go_simp; try with_reducible rfl)
                  try simp only [Act.put, List.setIfInBounds_toArray, List.set_cons_zero, List.set_cons_succ]
                  refine wpAnyH_take (i := 12) (oi := { dst := some 130, op := _, type := _, pos := _, after := _, guard := _ }) (v := ?v30) rfl (by kernel_rfl) (by kernel_rfl) (by kernel_rfl) (fun _ _ _ h => h) (Or.inl ⟨by rfl, ?hy30⟩) (by assumption) ?rest30
                  case hy30 => (intro w hSw; obtain ⟨q1,q2,q3⟩ := hSw; go_simp; try with_reducible rfl)
                  try simp only [Act.put, List.setIfInBounds_toArray, List.set_cons_zero, List.set_cons_succ]
                  refine wpAnyH_take (i := 13) (oi := { dst := some 131, op := _, type := _, pos := _, after := _, guard := _ }) (v := ?v31) rfl (by kernel_rfl) (by kernel_rfl) (by kernel_rfl) (fun _ _ _ h => h) (Or.inl ⟨by rfl, ?hy31⟩) (by assumption) ?rest31
                  case hy31 => (intro w hSw; obtain ⟨q1,q2,q3⟩ := hSw; go_simp; try with_reducible rfl)
                  try simp only [Act.put, List.setIfInBounds_toArray, List.set_cons_zero, List.set_cons_succ]
                  refine wpAnyH_take (i := 14) (oi := { dst := some 132, op := _, type := _, pos := _, after := _, guard := _ }) (v := (.bool true)) rfl (by kernel_rfl) (by kernel_rfl) (by kernel_rfl) (fun _ _ _ h => h) (Or.inl ⟨by rfl, ?hy32⟩) (by assumption) ?rest32
                  case hy32 => (intro w hSw; obtain ⟨q1,q2,q3⟩ := hSw; first | (go_simp; done) | (go_simp; simp [*]; done) | (simp [*]; go_simp; done))
                  try simp only [Act.put, List.setIfInBounds_toArray, List.set_cons_zero, List.set_cons_succ]
                  refine wpAnyH_take (i := 15) (oi := { dst := some 133, op := _, type := _, pos := _, after := _, guard := _ }) (v := (.bool true)) rfl (by kernel_rfl) (by kernel_rfl) (by kernel_rfl) (fun _ _ _ h => h) (Or.inl ⟨by rfl, ?hy33⟩) (by assumption) ?rest33
                  case hy33 => (intro w hSw; obtain ⟨q1,q2,q3⟩ := hSw; first | (go_simp; done) | (go_simp; simp [*]; done) | (simp [*]; go_simp; done))
                  try simp only [Act.put, List.setIfInBounds_toArray, List.set_cons_zero, List.set_cons_succ]
                  refine wpAnyH_take (i := 16) (oi := { dst := some 134, op := _, type := _, pos := _, after := _, guard := _ }) (v := ?v34) rfl (by kernel_rfl) (by kernel_rfl) (by kernel_rfl) (fun _ _ _ h => h) (Or.inl ⟨by rfl, ?hy34⟩) (by assumption) ?rest34
                  case hy34 => (intro w hSw; obtain ⟨q1,q2,q3⟩ := hSw; go_simp; try with_reducible rfl)
                  try simp only [Act.put, List.setIfInBounds_toArray, List.set_cons_zero, List.set_cons_succ]
                  refine wpAnyH_take (i := 17) (oi := { dst := some 135, op := _, type := _, pos := _, after := _, guard := _ }) (v := ?v35) rfl (by kernel_rfl) (by kernel_rfl) (by kernel_rfl) (fun _ _ _ h => h) (Or.inl ⟨by rfl, ?hy35⟩) (by assumption) ?rest35
                  case hy35 => (intro w hSw; obtain ⟨q1,q2,q3⟩ := hSw; go_simp; try with_reducible rfl)
                  try simp only [Act.put, List.setIfInBounds_toArray, List.set_cons_zero, List.set_cons_succ]
                  refine wpAnyH_take (i := 18) (oi := { dst := some 136, op := _, type := _, pos := _, after := _, guard := _ }) (v := ?v36) rfl (by kernel_rfl) (by kernel_rfl) (by kernel_rfl) (fun _ _ _ h => h) (Or.inl ⟨by rfl, ?hy36⟩) (by assumption) ?rest36
                  case hy36 => (intro w hSw; obtain ⟨q1,q2,q3⟩ := hSw; go_simp; try with_reducible rfl)
                  try simp only [Act.put, List.setIfInBounds_toArray, List.set_cons_zero, List.set_cons_succ]
                  refine wpAnyH_take (i := 19) (oi := { dst := some 137, op := _, type := _, pos := _, after := _, guard := _ }) (v := ?v37) rfl (by kernel_rfl) (by kernel_rfl) (by kernel_rfl) (fun _ _ _ h => h) (Or.inl ⟨by rfl, ?hy37⟩) (by assumption) ?rest37
                  case hy37 => (intro w hSw; obtain ⟨q1,q2,q3⟩ := hSw; go_simp; try with_reducible rfl)
                  try simp only [Act.put, List.setIfInBounds_toArray, List.set_cons_zero, List.set_cons_succ]
                  refine wpAnyH_take (i := 20) (oi := { dst := some 138, op := _, type := _, pos := _, after := _, guard := _ }) (v := ?v38) rfl (by kernel_rfl) (by kernel_rfl) (by kernel_rfl) (fun _ _ _ h => h) (Or.inl ⟨by rfl, ?hy38⟩) (by assumption) ?rest38
                  case hy38 => (intro w hSw; obtain ⟨q1,q2,q3⟩ := hSw; go_simp; try with_reducible rfl)
                  try simp only [Act.put, List.setIfInBounds_toArray, List.set_cons_zero, List.set_cons_succ]
                  refine wpAnyH_take (i := 21) (oi := { dst := some 139, op := _, type := _, pos := _, after := _, guard := _ }) (v := ?v39) rfl (by kernel_rfl) (by kernel_rfl) (by kernel_rfl) (fun _ _ _ h => h) (Or.inl ⟨by rfl, ?hy39⟩) (by assumption) ?rest39
                  case hy39 => (intro w hSw; obtain ⟨q1,q2,q3⟩ := hSw; go_simp; try with_reducible rfl)
                  try simp only [Act.put, List.setIfInBounds_toArray, List.set_cons_zero, List.set_cons_succ]
                  refine wpAnyH_take (i := 22) (oi := { dst := some 140, op := _, type := _, pos := _, after := _, guard := _ }) (v := ?v40) rfl (by kernel_rfl) (by kernel_rfl) (by kernel_rfl) (fun _ _ _ h => h) (Or.inl ⟨by rfl, ?hy40⟩) (by assumption) ?rest40
                  case hy40 => (intro w hSw; obtain ⟨q1,q2,q3⟩ := hSw; go_simp; try with_reducible rfl)
                  try simp only [Act.put, List.setIfInBounds_toArray, List.set_cons_zero, List.set_cons_succ]
                  refine wpAnyH_take (i := 23) (oi := { dst := some 141, op := _, type := _, pos := _, after := _, guard := _ }) (v := ?v41) rfl (by kernel_rfl) (by kernel_rfl) (by kernel_rfl) (fun _ _ _ h => h) (Or.inl ⟨by rfl, ?hy41⟩) (by assumption) ?rest41
                  case hy41 => (intro w hSw; obtain ⟨q1,q2,q3⟩ := hSw; go_simp; try with_reducible rfl)
                  try simp only [Act.put, List.setIfInBounds_toArray, List.set_cons_zero, List.set_cons_succ]
                  refine wpAnyH_ready (rs := [24]) (by kernel_rfl) (by simp) ?_
                  refine AllReadyH.cons (o := { dst := some 142, op := _, type := _, pos := _, after := _, guard := _ }) rfl (fun K hK => ?_) AllReadyH.nil
                  go_simp
                  refine (MS.out _ hb0).mono ?_
                  rintro _ w2 ⟨rfl, hb2⟩
                  have BB2 := keep (bup hb0 hb2)
                  have e1 := (BB2.out.cell (p := ⟨gg, i, none⟩) (lt_cell d1)).trans d1
                  have e2 := (BB2.out.cell (p := ⟨g5, i, none⟩) (lt_cell d2)).trans d2
                  have e3 := (BB2.out.cell (p := ⟨g6, i, none⟩) (lt_cell d3)).trans d3
                  refine hK.out _ _ ⟨e1, e2, e3⟩ (fun hHeld => ?_)
                  try simp only [Act.put, List.setIfInBounds_toArray, List.set_cons_zero, List.set_cons_succ]
                  clear hK MS hb2
                  refine wpAnyH_take (i := 25) (oi := { dst := some 143, op := _, type := _, pos := _, after := _, guard := _ }) (v := (.bool false)) rfl (by kernel_rfl) (by kernel_rfl) (by kernel_rfl) (fun _ _ _ h => h) (Or.inl ⟨by rfl, ?hy42⟩) (by assumption) ?rest42
                  case hy42 => (intro w hSw; obtain ⟨q1,q2,q3⟩ := hSw; first | (go_simp; done) | (go_simp; simp [*]; done) | (simp [*]; go_simp; done))
                  try simp only [Act.put, List.setIfInBounds_toArray, List.set_cons_zero, List.set_cons_succ]
                  refine wpAnyH_take (i := 26) (oi := { dst := some 144, op := _, type := _, pos := _, after := _, guard := _ }) (v := (.bool false)) rfl (by kernel_rfl) (by kernel_rfl) (by kernel_rfl) (fun _ _ _ h => h) (Or.inl ⟨by rfl, ?hy43⟩) (by assumption) ?rest43
                  case hy43 => (intro w hSw; obtain ⟨q1,q2,q3⟩ := hSw; first | (go_simp; done) | (go_simp; simp [*]; done) | (simp [*]; go_simp; done))
                  try simp only [Act.put, List.setIfInBounds_toArray, List.set_cons_zero, List.set_cons_succ]
                  refine wpAnyH_take (i := 27) (oi := { dst := some 145, op := _, type := _, pos := _, after := _, guard := _ }) (v := ?v44) rfl (by kernel_rfl) (by kernel_rfl) (by kernel_rfl) (fun _ _ _ h => h) (Or.inl ⟨by rfl, ?hy44⟩) (by assumption) ?rest44
                  case hy44 => (intro w hSw; obtain ⟨q1,q2,q3⟩ := hSw; go_simp; try with_reducible rfl)
                  try simp only [Act.put, List.setIfInBounds_toArray, List.set_cons_zero, List.set_cons_succ]
                  refine wpAnyH_take (i := 28) (oi := { dst := some 146, op := _, type := _, pos := _, after := _, guard := _ }) (v := ?v45) rfl (by kernel_rfl) (by kernel_rfl) (by kernel_rfl) (fun _ _ _ h => h) (Or.inl ⟨by rfl, ?hy45⟩) (by assumption) ?rest45
                  case hy45 => (intro w hSw; obtain ⟨q1,q2,q3⟩ := hSw; go_simp; try with_reducible rfl)
                  try simp only [Act.put, List.setIfInBounds_toArray, List.set_cons_zero, List.set_cons_succ]
                  refine wpAnyH_take (i := 29) (oi := { dst := some 147, op := _, type := _, pos := _, after := _, guard := _ }) (v := ?v46) rfl (by kernel_rfl) (by kernel_rfl) (by kernel_rfl) (fun _ _ _ h => h) (Or.inl ⟨by rfl, ?hy46⟩) (by assumption) ?rest46
                  case hy46 => (intro w hSw; obtain ⟨q1,q2,q3⟩ := hSw; go_simp; try with_reducible rfl)
                  try simp only [Act.put, List.setIfInBounds_toArray, List.set_cons_zero, List.set_cons_succ]
                  refine wpAnyH_take (i := 30) (oi := { dst := some 148, op := _, type := _, pos := _, after := _, guard := _ }) (v := ?v47) rfl (by kernel_rfl) (by kernel_rfl) (by kernel_rfl) (fun _ _ _ h => h) (Or.inl ⟨by rfl, ?hy47⟩) (by assumption) ?rest47
                  case hy47 => (intro w hSw; obtain ⟨q1,q2,q3⟩ := hSw; go_simp; try with_reducible rfl)
                  try simp only [Act.put, List.setIfInBounds_toArray, List.set_cons_zero, List.set_cons_succ]
                  refine wpAnyH_take (i := 31) (oi := { dst := some 149, op := _, type := _, pos := _, after := _, guard := _ }) (v := ?v48) rfl (by kernel_rfl) (by kernel_rfl) (by kernel_rfl) (fun _ _ _ h => h) (Or.inl ⟨by rfl, ?hy48⟩) (by assumption) ?rest48
                  case hy48 => (intro w hSw; obtain ⟨q1,q2,q3⟩ := hSw; go_simp; try with_reducible rfl)
                  try simp only [Act.put, List.setIfInBounds_toArray, List.set_cons_zero, List.set_cons_succ]
                  refine wpAnyH_take (i := 32) (oi := { dst := some 150, op := _, type := _, pos := _, after := _, guard := _ }) (v := ?v49) rfl (by kernel_rfl) (by kernel_rfl) (by kernel_rfl) (fun _ _ _ h => h) (Or.inl ⟨by rfl, ?hy49⟩) (by assumption) ?rest49
                  case hy49 => (intro w hSw; obtain ⟨q1,q2,q3⟩ := hSw; go_simp; try with_reducible rfl)
                  try simp only [Act.put, List.setIfInBounds_toArray, List.set_cons_zero, List.set_cons_succ]
                  refine wpAnyH_take (i := 33) (oi := { dst := some 151, op := _, type := _, pos := _, after := _, guard := _ }) (v := ?v50) rfl (by kernel_rfl) (by kernel_rfl) (by kernel_rfl) (fun _ _ _ h => h) (Or.inl ⟨by rfl, ?hy50⟩) (by assumption) ?rest50
                  case hy50 => (intro w hSw; obtain ⟨q1,q2,q3⟩ := hSw; go_simp; try with_reducible rfl)
                  try simp only [Act.put, List.setIfInBounds_toArray, List.set_cons_zero, List.set_cons_succ]
                  refine wpAnyH_take (i := 34) (oi := { dst := some 152, op := _, type := _, pos := _, after := _, guard := _ }) (v := ?v51) rfl (by kernel_rfl) (by kernel_rfl) (by kernel_rfl) (fun _ _ _ h => h) (Or.inl ⟨by rfl, ?hy51⟩) (by assumption) ?rest51
                  case hy51 => (intro w hSw; obtain ⟨q1,q2,q3⟩ := hSw; go_simp; try with_reducible rfl)
                  try simp only [Act.put, List.setIfInBounds_toArray, List.set_cons_zero, List.set_cons_succ]
                  refine wpAnyH_ready (rs := [35]) (by kernel_rfl) (by simp) ?_
                  refine AllReadyH.cons (o := { dst := some 153, op := _, type := _, pos := _, after := _, guard := _ }) rfl (fun K hK => ?_) AllReadyH.nil
                  go_simp
                  refine (MC.out _ BB2.out).mono ?_
                  rintro _ w3 ⟨rfl, hb3⟩
                  have BB3 := keep (bup BB2.out hb3)
                  have f1 := (BB3.out.cell (p := ⟨gg, i, none⟩) (lt_cell d1)).trans d1
                  have f2 := (BB3.out.cell (p := ⟨g5, i, none⟩) (lt_cell d2)).trans d2
                  have f3 := (BB3.out.cell (p := ⟨g6, i, none⟩) (lt_cell d3)).trans d3
                  refine hK.out _ _ ⟨f1, f2, f3⟩ (fun hHeld => ?_)
                  try simp only [Act.put, List.setIfInBounds_toArray, List.set_cons_zero, List.set_cons_succ]
                  clear hK MC hb3
                  refine wpAnyH_take (i := 36) (oi := { dst := some 154, op := _, type := _, pos := _, after := _, guard := _ }) (v := (.bool false)) rfl (by kernel_rfl) (by kernel_rfl) (by kernel_rfl) (fun _ _ _ h => h) (Or.inl ⟨by rfl, ?hy52⟩) (by assumption) ?rest52
                  case hy52 => (intro w hSw; first | (go_simp; done) | (go_simp; simp [*]; done) | (simp [*]; go_simp; done))
                  try simp only [Act.put, List.setIfInBounds_toArray, List.set_cons_zero, List.set_cons_succ]
                  refine wpAnyH_take (i := 37) (oi := { dst := some 155, op := _, type := _, pos := _, after := _, guard := _ }) (v := (.bool false)) rfl (by kernel_rfl) (by kernel_rfl) (by kernel_rfl) (fun _ _ _ h => h) (Or.inl ⟨by rfl, ?hy53⟩) (by assumption) ?rest53
                  case hy53 => (intro w hSw; first | (go_simp; done) | (go_simp; simp [*]; done) | (simp [*]; go_simp; done))
                  try simp only [Act.put, List.setIfInBounds_toArray, List.set_cons_zero, List.set_cons_succ]
                  refine wpAnyH_take (i := 38) (oi := { dst := some 156, op := _, type := _, pos := _, after := _, guard := _ }) (v := (.bool false)) rfl (by kernel_rfl) (by kernel_rfl) (by kernel_rfl) (fun _ _ _ h => h) (Or.inl ⟨by rfl, ?hy54⟩) (by assumption) ?rest54
                  case hy54 => (intro w hSw; first | (go_simp; done) | (go_simp; simp [*]; done) | (simp [*]; go_simp; done))
                  try simp only [Act.put, List.setIfInBounds_toArray, List.set_cons_zero, List.set_cons_succ]
                  refine wpAnyH_take (i := 39) (oi := { dst := some 157, op := _, type := _, pos := _, after := _, guard := _ }) (v := (.bool false)) rfl (by kernel_rfl) (by kernel_rfl) (by kernel_rfl) (fun _ _ _ h => h) (Or.inl ⟨by rfl, ?hy55⟩) (by assumption) ?rest55
                  case hy55 => (intro w hSw; first | (go_simp; done) | (go_simp; simp [*]; done) | (simp [*]; go_simp; done))
                  try simp only [Act.put, List.setIfInBounds_toArray, List.set_cons_zero, List.set_cons_succ]
                  refine wpAnyH_done (by kernel_rfl) ?_ _
                  clear hHeld d1 d2 d3 e1 e2 e3 f1 f2 f3
                  have KB2 := keep (bup KB.out BB3.out)
                  clear hb0 KB
                  go_wp2
                  go_roundw
                  case measure => simp [intOf]; have := HIL.out; omega
                  case rel => exact ⟨i + 1, by have := HIL.out; omega, by go_num, KB2⟩
            · have hiz : ¬ (i : Int) < (k : Int) := by omega
              go_wp2
              go_ret
              exact ⟨rfl, bup HG.out.1.1.1 KB.out⟩
end Rd
end Go.Proofs.YtlfpkbjiofelkaaGreat
