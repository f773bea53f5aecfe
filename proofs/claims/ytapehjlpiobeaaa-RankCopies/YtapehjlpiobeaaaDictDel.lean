/-
  Contracts over this program: Delete.
-/
import Derived.Test.YtapehjlpiobeaaaDictGet
namespace Go.Proofs.Ytapehjlpiobeaaa
open Go.RowKit Go.Shelf
theorem del_some {h : ByteArray → Nat} {s : Dc.St ByteArray Nat} {key : ByteArray} {x : Nat} (hl : Dc.look key (Dc.all (Dc.step h s)) = some x) : Dc.delete h s key = (Dc.shrink ((Dc.all (Dc.step h s)).length - 1) (Dc.every (Dc.without key) (Dc.step h s)), true) := by unfold Dc.delete; rw [hl]
theorem del_none {h : ByteArray → Nat} {s : Dc.St ByteArray Nat} {key : ByteArray} (hl : Dc.look key (Dc.all (Dc.step h s)) = none) : Dc.delete h s key = (Dc.step h s, false) := by unfold Dc.delete; rw [hl]
theorem del_len {h : ByteArray → Nat} {s : Dc.St ByteArray Nat} {key : ByteArray} {x : Nat} (hI : Dc.Inv h s) (hn : Dc.look key (Dc.all (Dc.step h s)) = some x) : (Dc.all (Dc.delete h s key).1).length = (Dc.all (Dc.step h s)).length - 1 ∧ 0 < (Dc.all (Dc.step h s)).length := by
  obtain ⟨q1, q2⟩ := Dc.step_inv hI
  have hnd : (Dc.keys (Dc.all (Dc.step h s))).Nodup := by rw [Dc.all_eq q1]; exact q1.nodup
  refine ⟨?_, List.length_pos_of_mem ((Dc.look_mem hnd key x).1 hn)⟩
  rw [(Dc.delete_inv hI key).2.2.2, q2.length_eq, ← Dc.look_perm hnd q2 key, hn]
  rfl
theorem del_end {h : ByteArray → Nat} {N n b seed : Nat} {s s3 : Dc.St ByteArray Nat} {key : ByteArray} {w W : World} {r r4 : Roles} {o : Bool} (e1 : Dc.delete h s key = (s3, o)) (e3 : (Dc.delete h s key).2 = (Dc.look key (Dc.all s)).isSome) (e2 : Okd h N (Dc.delete h s key).1) (e5 : (Dc.all (Dc.delete h s key).1).length = n) (hq : Dct W r4 b seed n s3) (hF : Fr w r W r4) :
    Ending.returned (.bool o) = .returned (.bool (Dc.look key (Dc.all s)).isSome) ∧ ∃ r', Dd h N W r' b seed (Dc.delete h s key).1 ∧ Fr w r W r' := by
  refine ⟨by rw [← e3, e1], r4, ⟨?_, e2⟩, hF⟩
  rw [e5, e1]
  exact hq
set_option maxRecDepth 100000 in
set_option maxHeartbeats 1000000 in
theorem delete_any {h : ByteArray → Nat} {seed N : Nat} (hH : HashIs seed h) (w : World) (r : Roles) (b : Nat) (s : Dc.St ByteArray Nat) (key : ByteArray) (hd : Dd h N w r b seed s) (hN : N + 1 ≤ 2600000000000) (hk : key.size ≤ maxLen) :
    Calls Try.prog 55 #[.pointer (some ⟨b, 0, none⟩), .string key] w fun e w' => e = .returned (.bool (Dc.look key (Dc.all s)).isSome) ∧ ∃ r', Dd h N w' r' b seed (Dc.delete h s key).1 ∧ Fr w r w' r' := by
  have mS := hd.step hH (by omega)
  have hset := (Dc.delete_inv hd.2.1 key).2.1
  have hO := okd_delete hd.2 key
  have HST := keep hset
  have HO := keep hO
  have HI := keep hd.2.1
  clear hd hset hO
  go_enter Try.func55, Try.ntmps55
  go_wp2_with fail
  refine mS.mono ?_
  rintro _ w1 ⟨rfl, r1, hd1, hf1⟩
  have mF := hd1.seek hH (by omega) hk
  have HD := keep hd1
  have HF := keep hf1
  clear mS hd1 hf1
  go_wp2_with fail
  refine mF.mono ?_
  rintro _ w2 ⟨hs, hb⟩
  have HB := keep hb
  clear mF
  rcases hs with ⟨rfl, h0, h1⟩ | ⟨t, g, cap, p, T, x, hT, hT0, hTb, hfc, hp, rfl⟩
  · have hn := look_missed HD.out.2.1 h0 h1
    have HSN := keep (del_none hn)
    clear h0 h1 hb hn
    go_wp2
    go_ret
    exact del_end HSN.out HST.out HO.out (by rw [HSN.out]) (HD.out.below HB.out).1 (HF.out.trans (Fr.of_below HB.out))
  · obtain ⟨c, gc, cc, q1, q2, q3, q4, q5, q6, _, _, q9, q10, q11, q8⟩ := found_at hT0 hTb hp hb
    have hn := look_found HD.out.2.1 (T := T) (hT.imp (fun h => h.2) (fun h => h.2)) (List.mem_of_getElem? q1) (List.mem_reverse.1 (List.mem_of_getElem? q2))
    have hD2 := HD.out.below HB.out
    have hTb2 : Tb w2 r1 t (.slice (some ⟨g, 0, none⟩) T.length cap) T := hTb.kept (fun k hk _ => ⟨HB.out.block k hk, rfl⟩)
    have hbl := HD.out.1.1 b (by rw [HD.out.1.2.1]; simp)
    obtain ⟨dl1, dl2⟩ := del_len HI.out hn
    have HDL := keep dl1
    have mW := without_any w2 gc cc p c q5 q3
    have hM := keep (fun (w3 : World) (ho : Only gc w2 w3) (hC : Chn w3 (.slice (some ⟨gc, 0, none⟩) (c.length - 1) cc) (c.reverse.eraseIdx p).reverse) => del_mem hD2.2.1 hD2.1 hT hTb2 ((HB.out.cell (p := ⟨b, 2 + t, none⟩) hbl).trans hfc) q1 q2 q6 ho hC)
    obtain ⟨i1, i2, i3, i4, i5⟩ := id hD2.2
    have hEI := keep (Dc.without_inv i1 key).1
    have hel : (Dc.every (Dc.without key) (Dc.step h s)).old.length ≤ 5400000000000 := by unfold Dc.every; rw [List.length_map]; omega
    have HSS := keep (del_some hn)
    have hrg : r1 g = (1 + t, 0) := by obtain ⟨_, _, a2, _⟩ := hTb; exact a2 g rfl
    have hgg : g ≠ gc := fun e => by rw [← e, hrg] at q6; simp at q6
    have hrb := HD.out.1.2.1
    have ht : t ≤ 1 := by rcases hT with ⟨rfl, _⟩ | ⟨rfl, _⟩ <;> omega
    have hbg : ¬ b = g := fun e => by rw [← e, hrb] at hrg; simp at hrg; omega
    have hbc : b ≠ gc := fun e => by rw [← e, hrb] at q6; simp at q6; omega
    obtain ⟨_, _, _, _, _, _, d3⟩ := hD2.1.cells
    obtain ⟨_, k1, _, _, _, kf⟩ := five d3
    have kf1 := kf 1
    obtain ⟨n, hnn⟩ : ∃ n, n = (Dc.all (Dc.step h s)).length := ⟨_, rfl⟩
    rw [← hnn] at HDL dl2 hM HSS k1 i3
    have hww : IntKind.i64.wrap ((n : Int) - 1) = ((n - 1 : Nat) : Int) := by rw [IntKind.wrap_i64]; omega
    clear hT hT0 hTb hfc hp hb q1 q2 q5 q6 hn hD2 hTb2 hbl dl1 i1 i2 i4 i5 d3 kf hrg hrb ht hnn
    generalize h key % T.length = i at *
    have i0 : (0 : Int) ≤ (i : Int) := by omega
    have i1 : (i : Int) < (T.length : Int) := by omega
    go_wp2_with fail
    refine mW.mono ?_
    rintro _ w3 ⟨rfl, hC3, ho3⟩
    have hM3 := hM.out w3 ho3 hC3
    have mK := shrink_any _ r1 b _ _ hM3.1 hEI.out hel (by omega)
    have u1 : w3.cell? ⟨g, i, none⟩ = some (.slice (some ⟨gc, 0, none⟩) c.length cc) := (World.cell?_of_block (w := w2) (a := ⟨g, i, none⟩) (ho3.2.2 g hgg)).trans q4
    have u2 : w3.frozen? ⟨g, i, none⟩ = false := (World.frozen?_of_block (w := w2) (a := ⟨g, i, none⟩) (ho3.2.2 g hgg)).trans q9
    have u3 : w3.cell? ⟨b, 1, none⟩ = some (.int .i64 n) := (World.cell?_of_block (w := w2) (a := ⟨b, 1, none⟩) (ho3.2.2 b hbc)).trans k1
    have u4 : w3.frozen? ⟨b, 1, none⟩ = false := (World.frozen?_of_block (w := w2) (a := ⟨b, 1, none⟩) (ho3.2.2 b hbc)).trans kf1
    have HF3 := keep hM3.2
    clear mW hM hM3 hC3 ho3 q4 q9 k1 kf1
    have hgb : ¬ g = b := fun e => hbg e.symm
    go_wp2_with fail
    refine mK.mono ?_
    rintro _ w6 ⟨rfl, r6, v1, v2⟩
    have V1 := keep v1
    have V2 := keep v2
    clear v1 v2 mK
    go_wp2
    go_ret
    exact del_end HSS.out HST.out HO.out HDL.out V1.out (((HF.out.trans (Fr.of_below HB.out)).trans HF3.out).trans V2.out)
end Go.Proofs.Ytapehjlpiobeaaa
