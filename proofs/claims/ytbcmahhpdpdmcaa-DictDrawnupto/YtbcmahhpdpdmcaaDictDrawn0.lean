/-
  The walk of DictDrawn: what is drawn is there, and each can be drawn.
-/
import Derived.Test.YtbcmahhpdpdmcaaDictSample
import Derived.Test.YtbcmahhpdpdmcaaDictLittle0
namespace Go.Proofs.Ytbcmahhpdpdmcaa
open Go.RowKit Go.Shelf
theorem draw_in {t : Dc.Tab ByteArray Int} {y : Nat} {e : Ent} (h : Dc.draw t y = some e) : e ∈ t.flatten := by
  unfold Dc.draw at h
  split at h
  · rename_i c hc
    exact List.mem_flatten.2 ⟨c, List.mem_of_getElem? hc, List.mem_of_getElem? h⟩
  · cases h
theorem mul_facts {O P Y n T : Nat} (hP : P ≤ O) (hT : T = O - P + Y) (hTm : T ≤ 4194320) (hn : n ≤ 60) : ∃ M : Nat, M = T * n ∧ M ≤ 251659200 ∧ wrap64 (((O : Int) - (P : Int) + (Y : Int)) * (n : Int)) = (M : Int) := by
  have e : (O : Int) - (P : Int) + (Y : Int) = (T : Int) := by omega
  have hm : T * n ≤ 4194320 * 60 := Nat.mul_le_mul hTm hn
  refine ⟨T * n, rfl, hm, ?_⟩
  rw [e, ← Int.natCast_mul]
  generalize T * n = M at *
  rw [wrap64]; omega
theorem small_M {j : Nat} (h : j ≤ 251659200) : j < Dw.M := by unfold Dw.M; omega
/-- keys in a slice of strings, in a block from B on -/
def Sr (B : Nat) (w : World) (v : Value) (xs : List ByteArray) : Prop := w.ownsRow B 9 1 v xs.length (xs.map Value.string)
def Told (t : Dc.Tab ByteArray Int) (xs : List ByteArray) : Prop := ∀ m y, xs[m]? = some y → ∃ e, Dc.draw t m = some e ∧ y = e.1
theorem Told.snoc {t : Dc.Tab ByteArray Int} {xs : List ByteArray} {e : Ent} (h : Told t xs) (he : Dc.draw t xs.length = some e) : Told t (xs ++ [e.1]) := by
  intro m y hm
  by_cases hl : m < xs.length
  · rw [List.getElem?_append_left hl] at hm; exact h m y hm
  · rw [List.getElem?_append_right (by omega)] at hm
    have h0 : m - xs.length = 0 := by
      have := (List.getElem?_eq_some_iff.1 hm).1
      simp at this; omega
    have : m = xs.length := by omega
    subst this
    rw [h0] at hm
    have hm : e.1 = y := by simpa using hm
    exact ⟨e, he, hm.symm⟩
theorem draw_pos {t : Dc.Tab ByteArray Int} {y : Nat} {e : Ent} (h : Dc.draw t y = some e) : 0 < t.length := by
  have h1 := draw_in h
  cases t with
  | nil => cases h1
  | cons _ _ => simp
theorem nodup_all {h : ByteArray → Nat} {N : Nat} {s : Dc.St ByteArray Int} (hO : Okd h N s) : (Dc.keys (Dc.all s)).Nodup := by rw [Dc.all_eq hO.1]; exact hO.1.nodup
theorem seen_all {h : ByteArray → Nat} {N : Nat} {s : Dc.St ByteArray Int} {l : List Ent} {xs : List ByteArray} (hO : Okd h N s) (hL : Lst s l) (hT : Told (Dc.opened s) xs) (hx : xs.length = (Dc.opened s).length * l.length) {e : Ent} (he : e ∈ l) : e.1 ∈ xs := by
  have h1 : Dc.look e.1 l = some e.2 := (Dc.look_mem hL.1 e.1 e.2).2 he
  rw [hL.2.1] at h1
  unfold lk at h1
  have h2 := (Dc.look_mem (nodup_all hO) e.1 e.2).1 h1
  rw [← Dc.opened_all] at h2
  obtain ⟨r, hr, hd⟩ := Dc.draw_each h2
  have hfl : (Dc.opened s).flatten.length = l.length := by rw [Dc.opened_all]; exact hL.2.2.symm
  rw [hfl, ← hx] at hr
  obtain ⟨e', he', hy⟩ := hT r xs[r] (List.getElem?_eq_getElem hr)
  rw [hd] at he'
  have e1 := Option.some.inj he'
  subst e1
  have hy : xs[r] = e.1 := hy
  rw [← hy]
  exact List.getElem_mem hr
theorem drawn_listed {h : ByteArray → Nat} {N : Nat} {s : Dc.St ByteArray Int} {l : List Ent} (hO : Okd h N s) (hL : Lst s l) {y : Nat} {e : Ent} (hd : Dc.draw (Dc.opened s) y = some e) : e.1 ∈ Dc.keys l := by
  have h1 := draw_in hd
  rw [Dc.opened_all] at h1
  have h2 : lk s e.1 = some e.2 := (Dc.look_mem (nodup_all hO) e.1 e.2).2 h1
  rw [← hL.2.1] at h2
  have h3 := (Dc.look_mem hL.1 e.1 e.2).1 h2
  exact List.mem_map.2 ⟨_, h3, rfl⟩
theorem told_listed {h : ByteArray → Nat} {N : Nat} {s : Dc.St ByteArray Int} {l : List Ent} {xs : List ByteArray} {en : Ent} {x : Nat} (hO : Okd h N s) (hL : Lst s l) (hT : Told (Dc.opened s) xs) (hen : Dc.draw (Dc.opened s) x = some en) : ∀ y ∈ xs ++ [en.1], y ∈ Dc.keys l := by
  intro y hy
  rcases List.mem_append.1 hy with h1 | h1
  · obtain ⟨m, hm⟩ := List.getElem?_of_mem h1
    obtain ⟨e, he, rfl⟩ := hT m y hm
    exact drawn_listed hO hL he
  · have : y = en.1 := by simpa using h1
    rw [this]; exact drawn_listed hO hL hen
/-- whether a key was met among the first m -/
def Hit (k : ByteArray) (ks : List ByteArray) (m : Nat) (fb : Bool) : Prop := fb = true ↔ k ∈ ks.take m
theorem Hit.zero (k : ByteArray) (ks : List ByteArray) : Hit k ks 0 false := by unfold Hit; simp
theorem Hit.on {k : ByteArray} {ks : List ByteArray} {m : Nat} (h : Hit k ks m true) : Hit k ks (m + 1) true := by
  unfold Hit at *
  exact ⟨fun _ => (List.take_subset_take_left ks (Nat.le_succ m)) (h.1 rfl), fun _ => rfl⟩
theorem Hit.here {k : ByteArray} {ks : List ByteArray} {m : Nat} (h : ks[m]? = some k) : Hit k ks (m + 1) true := by
  unfold Hit
  refine ⟨fun _ => ?_, fun _ => rfl⟩
  rw [List.take_add_one, h]
  simp
theorem Hit.not {k z : ByteArray} {ks : List ByteArray} {m : Nat} (h : Hit k ks m false) (hz : ks[m]? = some z) (hne : z ≠ k) : Hit k ks (m + 1) false := by
  unfold Hit at *
  rw [List.take_add_one, hz]
  constructor
  · intro h'; cases h'
  · intro h'
    rcases List.mem_append.1 h' with h1 | h1
    · exact h.2 h1
    · have : k = z := by simpa using h1
      exact absurd this.symm hne
theorem Hit.all {k : ByteArray} {ks : List ByteArray} {fb : Bool} (h : Hit k ks ks.length fb) (hk : k ∈ ks) : fb = true := by
  unfold Hit at h
  rw [List.take_length] at h
  exact h.2 hk
theorem Sr.form {B : Nat} {w : World} {v : Value} {xs : List ByteArray} (h : Sr B w v xs) (h0 : 0 < xs.length) : ∃ g cap, v = .slice (some ⟨g, 0, none⟩) xs.length cap ∧ B ≤ g ∧ g < w.heap.size := by
  unfold Sr at h
  obtain ⟨g, cap, rfl, h1, h2⟩ := h.form h0
  exact ⟨g, cap, rfl, h1, h2⟩
theorem Sr.at {B : Nat} {w : World} {g n cap m : Nat} {xs : List ByteArray} {y : ByteArray} (h : Sr B w (.slice (some ⟨g, 0, none⟩) n cap) xs) (hm : xs[m]? = some y) : w.cell? ⟨g, m, none⟩ = some (.string y) := by
  have add : ∀ i, (⟨g, 0, none⟩ : Addr).add i = ⟨g, i, none⟩ := by intro i; unfold Addr.add; split <;> simp_all
  unfold Sr at h
  have h1 := h.cells (g := g) rfl m (.string y) (by rw [List.getElem?_map, hm]; rfl)
  rw [add] at h1
  exact h1
theorem info_str : (Try.prog.info? 9).map (fun i => (i.zero, i.size, i.bytes)) = some (some (.string .empty), 1, 16) := by kernel_rfl
set_option maxRecDepth 100000 in
set_option maxHeartbeats 4000000 in
theorem drawn_walk {h : ByteArray → Nat} (W : World) (seed : Nat) (hH : HashIs seed h) (so : Option Addr) (cs : Nat) (S : List Stp) (hS : Steps W so S) (hn : S.length ≤ 1048576) (x : Nat) (hx : x < Dw.M) :
    Calls Try.prog 8 #[.int .u64 seed, .slice so S.length cs, .int .u64 x] W fun e w' => e = .returned (.bool true) ∧ Below W.heap.size W w' := by
  obtain ⟨L, hL⟩ : ∃ L, S.length = L := ⟨_, rfl⟩
  rw [hL] at hn ⊢
  have HL := keep hL
  have HS := keep hS
  clear hL hS
  go_enter Try.func8, Try.ntmps8
  go_wp2_with fail
  refine (wakes_any _).mono ?_
  rintro _ w0 ⟨rfl, hb0⟩
  go_wp2_with fail
  refine (new_any h w0 seed 0).mono ?_
  rintro _ w1 ⟨rfl, hb1, hz1, hd1⟩
  have HB := keep (both_new hb0 hb1 hd1)
  generalize (fun k => if k = w0.heap.size then (5, 0) else (0, 0) : Roles) = r0 at HB
  obtain ⟨b, hb⟩ : ∃ x, x = w0.heap.size := ⟨_, rfl⟩
  rw [← hb] at HB ⊢
  clear hb0 hb1 hz1 hd1 hb
  go_wp2
  go_loopw [8, 39] (fun u8 i wr => ∃ k : Nat, k ≤ L ∧ i = .int .i64 k ∧ ∃ r s l, u8 = u8 ∧ Kept (Both h k W wr r b seed s u8 l)) (fun _ i _ => L - (intOf i).toNat)
  case atStart => exact ⟨0, Nat.zero_le _, rfl, r0, _, _, rfl, HB⟩
  case round =>
    obtain ⟨k, hk, rfl, r, s, l, _, PB0⟩ := hrel
    by_cases hlt : k < L
    · have hltz : (k : Int) < (L : Int) := by omega
      obtain ⟨a, rfl, hab, hkyo, _, hst0⟩ := HS.out k (by rw [HL.out]; exact hlt)
      have hst := hst0.bel PB0.out.2.2.2.2.1 (by rw [add_block]; exact hab)
      clear hst0
      generalize S[k]'(by rw [HL.out]; exact hlt) = o at hst hkyo
      have hnew := stp_box wr o
      have hbx := (Below.refl wr.heap.size wr).alloc (Nat.le_refl _) (.cells o.cells 33)
      have PB := keep (PB0.out.below hbx)
      have hN1 : k + 1 ≤ 2600000000000 := by omega
      obtain ⟨t0, t1, t2, t3, t4, t5⟩ := hst
      have mD := does_any hH (wr.alloc (.cells o.cells 33)) r b s u8 l o PB.out.1 hN1 hkyo PB.out.2.1 PB.out.2.2.1 PB.out.2.2.2.1
      have HDN := keep (fun e w' hh => PB.out.done (o := o) (e := e) (w' := w') hh)
      clear hnew hbx PB0
      obtain ⟨who, op, nn, v, ky, R⟩ := o
      unfold Stp.cells at mD PB HDN
      dsimp only at t0 t1 t2 t3 t4 t5 mD PB HDN
      have hbxc : ∀ (i : Nat) (hi : i < 6), (wr.alloc (.cells #[.int .i64 who, .int .i64 op, .int .i64 nn, .int .i64 v, .string ky, .int .u64 R] 33)).cell? ⟨wr.heap.size, i, none⟩ = some (#[Value.int .i64 who, .int .i64 op, .int .i64 nn, .int .i64 v, .string ky, .int .u64 R][i]'hi) := fun i hi => by
        rw [cell_of_row _ _ _ _ _ _ (heap_alloc_new _ _)]; exact Array.getElem?_eq_getElem hi
      have b0 := hbxc 0 (by omega)
      have b1 := hbxc 1 (by omega)
      have b2 := hbxc 2 (by omega)
      have b3 := hbxc 3 (by omega)
      have b4 := hbxc 4 (by omega)
      have b5 := hbxc 5 (by omega)
      clear hbxc
      obtain ⟨W1, hW1⟩ : ∃ W1, wr.alloc (.cells #[.int .i64 who, .int .i64 op, .int .i64 nn, .int .i64 v, .string ky, .int .u64 R] 33) = W1 := ⟨_, rfl⟩
      obtain ⟨X, hX⟩ : ∃ x, wr.heap.size = x := ⟨_, rfl⟩
      rw [hW1] at mD PB HDN b0 b1 b2 b3 b4 b5
      rw [hX] at b0 b1 b2 b3 b4 b5
      obtain ⟨wo, hwo⟩ : ∃ x, x = wr := ⟨_, rfl⟩
      subst hwo
      go_wp2_with fail
      refine mD.mono ?_
      rintro e w3 hDone
      obtain ⟨lv', l', r', he, hB3⟩ := HDN.out e w3 hDone
      subst he
      have HB3 := keep hB3
      clear mD HDN hDone hB3 PB b0 b1 b2 b3 b4 b5
      go_wp2
      go_roundw
      case measure => simp [intOf]; omega
      case rel => exact ⟨k + 1, by omega, by go_num, _, _, _, trivial, HB3⟩
    · have hltz : ¬ (k : Int) < (L : Int) := by omega
      have hkk : k ≤ 1048576 := by omega
      have m0 := sample_any wr r b seed s PB0.out.1 (by omega) x hx
      clear HS
      obtain ⟨wo, hwo⟩ : ∃ x, x = wr := ⟨_, rfl⟩
      subst hwo
      obtain ⟨ao, cap, hu8, _, _, _⟩ := PB0.out.2.2.1.form
      obtain ⟨n, hnl⟩ : ∃ n, l.length = n := ⟨_, rfl⟩
      rw [hnl] at hu8
      subst hu8
      have hnn : n = (Dc.all s).length := by rw [← hnl]; exact PB0.out.2.1.2.2
      have HN := keep hnl
      have HNN := keep hnn
      clear hnl hnn
      go_wp2_with fail
      refine m0.mono ?_
      rintro _ w2 ⟨hdr, q, hw2⟩
      have PB : Kept (Both h k W w2 r b seed s (.slice ao n cap) l) := by rw [hw2]; exact PB0.out.below (below_drewN (Below.refl _ _) q)
      clear hw2 PB0 m0
      rcases hdr with ⟨ha, rfl⟩ | ⟨en, hen, rfl⟩
      · have hnn : n = 0 := by rw [HNN.out, ha]; rfl
        subst hnn
        clear ha
        go_wp2
        go_ret
        exact ⟨rfl, PB.out.2.2.2.2.1⟩
      · have hmem := draw_in hen
        rw [Dc.opened_all] at hmem
        have hn0 : 0 < n := by rw [HNN.out]; exact List.length_pos_of_mem hmem
        have HEN := keep hen
        have hn1 : ((n : Int) == 0) = false := beq_eq_false_iff_ne.2 (by omega)
        have hn2 : decide (0 < (n : Int)) = true := decide_eq_true (by omega)
        clear hen hmem
        by_cases h60 : 60 < n
        · have d60 : decide (60 < (n : Int)) = true := decide_eq_true (by omega)
          go_wp2
          go_ret
          exact ⟨rfl, PB.out.2.2.2.2.1⟩
        · have d60 : decide (60 < (n : Int)) = false := decide_eq_false (by omega)
          have hOk := PB.out.1.2
          have hp : s.pos ≤ s.old.length := by
            by_cases hy : s.young = []
            · rw [hOk.1.rest hy]; omega
            · have := hOk.1.move hy; omega
          have h4 := hOk.2.2.2.1
          have h5 := hOk.2.2.2.2
          have hol : (Dc.opened s).length = s.old.length - s.pos + s.young.length := by unfold Dc.opened; rw [List.length_append, List.length_drop]
          obtain ⟨M, hM, hMm, hwM⟩ := mul_facts (n := n) hp hol (by omega) (by omega)
          have mZ := sizes_any _ r b seed _ s PB.out.1.1
          have HM := keep hM
          clear hOk hol hM
          go_wp2_with fail
          refine mZ.mono ?_
          rintro _ w3 ⟨rfl, q3, hw3⟩
          have PB3 : Kept (Both h k W w3 r b seed s (.slice ao n cap) l) := by rw [hw3]; exact PB.out.below (below_drewN (Below.refl _ _) q3)
          clear hw3 PB mZ
          go_wp2
          have hn60 : n ≤ 60 := by omega
          obtain ⟨i0, hi0, hz0, hz1, hz2⟩ := info_parts info_str
          rw [hwM]
          clear hwM h4 h5 d60 h60
          go_loopw [19, 96] (fun u19 i wr => ∃ j : Nat, j ≤ M ∧ i = .int .i64 j ∧ ∃ xs : List ByteArray, xs.length = j ∧ Kept (Sr w3.heap.size wr u19 xs) ∧ Kept (Told (Dc.opened s) xs) ∧ Kept (Below w3.heap.size w3 wr)) (fun _ i _ => M - (intOf i).toNat)
          case atStart => exact ⟨0, Nat.zero_le _, rfl, [], rfl, ⟨rfl, .inl ⟨rfl, rfl⟩⟩, (fun m y h => by simp at h), Below.refl _ _⟩
          case round =>
            obtain ⟨j, hj, rfl, xs, hxs, QS, QT, QB⟩ := hrel
            by_cases hjl : j < M
            · have hjz : (j : Int) < (M : Int) := by omega
              have hju : IntKind.u64.wrap (j : Int) = (j : Int) := by rw [IntKind.wrap_u64]; omega
              have mS := sample_any wr r b seed s (PB3.out.below QB.out).1 (by omega) j (small_M (by omega))
              have h63 : j + 1 ≤ maxLen := by unfold maxLen; omega
              have hby : (j + 1) * 16 ≤ 140737488355328 := by omega
              have HXS := keep hxs
              clear hxs
              obtain ⟨wo2, hwo2⟩ : ∃ x, x = wr := ⟨_, rfl⟩
              subst hwo2
              go_wp2_with fail
              refine mS.mono ?_
              rintro _ w4 ⟨hdr, q4, hw4⟩
              rcases hdr with ⟨ha, _⟩ | ⟨e, he, rfl⟩
              · exfalso
                have := HNN.out
                rw [ha] at this
                have : n = 0 := this
                omega
              have hb4 : Below w3.heap.size w3 w4 := by rw [hw4]; exact below_drewN QB.out q4
              have hY4 : w4.ownsRow w3.heap.size 9 1 u19 j (xs.map Value.string) := by have h1 := QS.out; unfold Sr at h1; rw [HXS.out] at h1; rw [hw4]; exact own_kept h1 (fun _ _ => rfl)
              have HY := keep hY4
              have HB4 := keep hb4
              have HTO := keep (Told.snoc QT.out (e := e) (by rw [HXS.out]; exact he))
              have hsz : w3.heap.size ≤ w4.heap.size := hb4.size
              have hbase : w3.heap.size ≤ (w4.alloc (.cells #[.string e.1] 9)).heap.size := by simp; omega
              clear mS hY4 hb4 hw4 he
              go_wp2_with (first | (at_builtin; refine wpList_append_lies _ rfl _ _ 56 rfl w3.heap.size 9 i0 _ 1 16 Try.underlying56 hi0 hz0 hz1 hz2 rfl (by omega) u19 j (xs.map Value.string) rfl (HY.out.alloc _) ⟨w4.heap.size, 0, none⟩ 1 1 [.string e.1] rfl rfl (World.news_of_block (cs := #[.string e.1]) (t := 9) (fr := (0, 0)) (heap_alloc_new w4 _)) (by simp [Value.oneCell']) (by omega) h63 hby hbase (w4.heap.size + 1) (by simp) ?_; intro gg cap' w5 hown hgrow hat hlt5))
              have HS5 : Kept (Sr w3.heap.size w5 (.slice (some ⟨gg, 0, none⟩) (j + 1) cap') (xs ++ [e.1])) := by
                unfold Kept Sr
                rw [List.length_append, HXS.out, List.map_append]
                exact hown
              have HB5 : Kept (Below w3.heap.size w3 w5) := (HB4.out.alloc hsz _).grown hgrow hbase (fun k hk => (HY.out.lt k hk).1)
              clear hown hgrow hat hlt5 HY HB4 hbase
              go_wp2
              go_roundw
              case measure => simp [intOf]; omega
              case rel => exact ⟨j + 1, by omega, by go_num, xs ++ [e.1], by rw [List.length_append, HXS.out]; rfl, HS5, HTO, HB5⟩
            · have hjz : ¬ (j : Int) < (M : Int) := by omega
              have hjj : j = M := by omega
              have hMp : 0 < M := by rw [HM.out]; exact Nat.mul_pos (draw_pos HEN.out) hn0
              obtain ⟨gs, cps, hus, hgs1, hgs2⟩ := QS.out.form (by omega)
              rw [hxs, hjj] at hus
              subst hus
              have HXS : Kept (xs.length = M) := keep (hxs.trans hjj)
              clear hxs
              replace hjj := hjj.symm
              subst hjj
              obtain ⟨gl, hao⟩ : ∃ g, ao = some ⟨g, 0, none⟩ := by
                obtain ⟨ao', cap', e1, _, _, e2⟩ := PB3.out.2.2.1.form
                rcases e2 with e2 | ⟨g, e2, _⟩
                · have := HN.out; rw [e2] at this; simp at this; omega
                · injection e1 with e1; exact ⟨g, by rw [e1, e2]⟩
              subst hao
              have PBw := keep (PB3.out.below QB.out)
              have HQB := keep (PBw.out.2.2.2.2.1)
              have SEEN := keep (fun e (he : e ∈ l) => seen_all PB3.out.1.2 PB3.out.2.1 QT.out (by rw [HXS.out, HN.out]; exact HM.out) he)
              have LIST := keep (told_listed PB3.out.1.2 PB3.out.2.1 QT.out HEN.out)
              clear HEN HM HNN
              obtain ⟨wo2, hwo2⟩ : ∃ x, x = wr := ⟨_, rfl⟩
              subst hwo2
              go_wp2
              go_loopw [115] (fun i wr => ∃ p : Nat, p ≤ n ∧ i = .int .i64 p ∧ Kept (Below wo2.heap.size wo2 wr)) (fun i _ => n - (intOf i).toNat)
              case atStart => exact ⟨0, Nat.zero_le _, rfl, Below.refl _ _⟩
              case round =>
                obtain ⟨p, hpn, rfl, RB⟩ := hrel
                by_cases hpl : p < n
                · have hpz : (p : Int) < (n : Int) := by omega
                  obtain ⟨e, he⟩ : ∃ e, l[p]? = some e := ⟨_, List.getElem?_eq_getElem (by rw [HN.out]; exact hpl)⟩
                  obtain ⟨c0, c1⟩ := (PBw.out.below RB.out).2.2.1.at he
                  obtain ⟨ky, v⟩ := e
                  dsimp only at c0 c1
                  have HIN := keep (SEEN.out _ (List.mem_of_getElem? he))
                  have hbx := RB.out.alloc RB.out.size (.cells #[.string ky, .int .i64 v] 58)
                  have bx0 : (wr.alloc (.cells #[.string ky, .int .i64 v] 58)).cell? ⟨wr.heap.size, 0, none⟩ = some (.string ky) := by
                    rw [cell_of_row _ _ _ _ _ _ (heap_alloc_new _ _)]; rfl
                  have HBX := keep hbx
                  have QS1 : Kept (Sr w3.heap.size (wr.alloc (.cells #[.string ky, .int .i64 v] 58)) (.slice (some ⟨gs, 0, none⟩) M cps) xs) := own_kept QS.out (fun k hk => by cases hk; exact hbx.block gs hgs2)
                  obtain ⟨W1, hW1⟩ : ∃ W1, wr.alloc (.cells #[.string ky, .int .i64 v] 58) = W1 := ⟨_, rfl⟩
                  obtain ⟨X, hX⟩ : ∃ x, wr.heap.size = x := ⟨_, rfl⟩
                  rw [hW1] at bx0 HBX QS1
                  rw [hX] at bx0
                  clear hbx he
                  obtain ⟨wo4, hwo4⟩ : ∃ x, x = wr := ⟨_, rfl⟩
                  subst hwo4
                  go_wp2
                  go_loopw [25, 121] (fun f i wr2 => ∃ m : Nat, m ≤ M ∧ i = .int .i64 m ∧ wr2 = W1 ∧ ∃ fb, f = .bool fb ∧ Kept (Hit ky xs m fb)) (fun _ i _ => M - (intOf i).toNat)
                  case atStart => exact ⟨0, Nat.zero_le _, rfl, rfl, false, rfl, Hit.zero _ _⟩
                  case round =>
                    obtain ⟨m, hm, rfl, rfl, fb, rfl, HT⟩ := hrel
                    by_cases hml : m < M
                    · have hmz : (m : Int) < (M : Int) := by omega
                      obtain ⟨z, hz⟩ : ∃ z, xs[m]? = some z := ⟨_, List.getElem?_eq_getElem (by rw [HXS.out]; exact hml)⟩
                      have cz := QS1.out.at hz
                      have HZ := keep hz
                      clear hz
                      cases fb with
                      | true =>
                        have HT2 := keep HT.out.on
                        go_wp2
                        go_roundw
                        case measure => simp [intOf]; omega
                        case rel => exact ⟨m + 1, by omega, by go_num, trivial, true, rfl, HT2⟩
                      | false =>
                        by_cases hzk : z = ky
                        · subst hzk
                          have HT2 := keep (Hit.here HZ.out)
                          go_wp2
                          go_roundw
                          case measure => simp [intOf]; omega
                          case rel => exact ⟨m + 1, by omega, by go_num, trivial, true, rfl, HT2⟩
                        · have HT2 := keep (HT.out.not HZ.out hzk)
                          have hzb : (z.toList == ky.toList) = false := beq_eq_false_iff_ne.2 (fun e => hzk (bytes_eq e))
                          go_wp2
                          go_roundw
                          case measure => simp [intOf]; omega
                          case rel => exact ⟨m + 1, by omega, by go_num, trivial, false, rfl, HT2⟩
                    · have hmz : ¬ (m : Int) < (M : Int) := by omega
                      have hmm : m = xs.length := by rw [HXS.out]; omega
                      have hfb : fb = true := by have h1 := HT.out; rw [hmm] at h1; exact h1.all HIN.out
                      subst hfb
                      clear hmm
                      go_wp2
                      go_roundw
                      case measure => simp [intOf]; omega
                      case rel => exact ⟨p + 1, by omega, by go_num, HBX⟩
                · have hpz : ¬ (p : Int) < (n : Int) := by omega
                  have hsz1 := RB.out.size
                  have HYR : Kept (wr.ownsRow w3.heap.size 9 1 (.slice (some ⟨gs, 0, none⟩) M cps) M (xs.map Value.string)) := by
                    have h1 := QS.out
                    unfold Sr at h1
                    rw [HXS.out] at h1
                    exact own_kept h1 (fun k hk => by cases hk; exact RB.out.block gs hgs2)
                  have hszr : w3.heap.size ≤ wr.heap.size := by omega
                  have HBR : Kept (Below w3.heap.size w3 (wr.alloc (.cells #[.string en.1] 9))) := (QB.out.trans (RB.out.mono (by omega))).alloc hszr _
                  have hbase : w3.heap.size ≤ (wr.alloc (.cells #[.string en.1] 9)).heap.size := by simp; omega
                  have h63 : M + 1 ≤ maxLen := by unfold maxLen; omega
                  have hby : (M + 1) * 16 ≤ 140737488355328 := by omega
                  obtain ⟨M1, hM1⟩ : ∃ M1, M + 1 = M1 := ⟨_, rfl⟩
                  have HM1 := keep hM1
                  have hM1m : M1 ≤ 251659201 := by omega
                  clear SEEN hM1
                  obtain ⟨wo4, hwo4⟩ : ∃ x, x = wr := ⟨_, rfl⟩
                  subst hwo4
                  go_wp2_with (first | (at_builtin; refine wpList_append_lies _ rfl _ _ 56 rfl w3.heap.size 9 i0 _ 1 16 Try.underlying56 hi0 hz0 hz1 hz2 rfl (by omega) (.slice (some ⟨gs, 0, none⟩) M cps) M (xs.map Value.string) rfl (HYR.out.alloc _) ⟨wo4.heap.size, 0, none⟩ 1 1 [.string en.1] rfl rfl (World.news_of_block (cs := #[.string en.1]) (t := 9) (fr := (0, 0)) (heap_alloc_new wo4 _)) (by simp [Value.oneCell']) (by omega) h63 hby hbase (wo4.heap.size + 1) (by simp) ?_; intro gg cap' w5 hown hgrow hat hlt5; rw [HM1.out] at hown ⊢))
                  obtain ⟨ys, hys⟩ : ∃ ys, ys = xs ++ [en.1] := ⟨_, rfl⟩
                  have HYL : Kept (ys.length = M1) := by rw [hys, List.length_append, HXS.out]; exact HM1.out
                  have HS5 : Kept (Sr w3.heap.size w5 (.slice (some ⟨gg, 0, none⟩) M1 cap') ys) := by
                    have h1 := HYL.out
                    unfold Kept Sr
                    rw [h1, hys, List.map_append]
                    exact hown
                  have HB5 : Kept (Below w3.heap.size w3 w5) := HBR.out.grown hgrow hbase (fun k hk => (HYR.out.lt k hk).1)
                  have HIN : Kept (∀ y ∈ ys, y ∈ Dc.keys l) := by rw [hys]; exact LIST.out
                  have PB5 := keep (PB3.out.below HB5.out)
                  clear hys hown hgrow hat HYR HBR hbase LIST HM1 QS QB PB3 PBw QT HXS RB HQB h63 hby hsz1 hszr
                  go_wp2
                  go_loopw [141] (fun i wr => ∃ p : Nat, p ≤ M1 ∧ i = .int .i64 p ∧ Kept (Below w5.heap.size w5 wr)) (fun i _ => M1 - (intOf i).toNat)
                  case atStart => exact ⟨0, Nat.zero_le _, rfl, Below.refl _ _⟩
                  case round =>
                    obtain ⟨p, hpn, rfl, RB⟩ := hrel
                    by_cases hpl : p < M1
                    · have hpz : (p : Int) < (M1 : Int) := by omega
                      obtain ⟨y, hy⟩ : ∃ y, ys[p]? = some y := ⟨_, List.getElem?_eq_getElem (by rw [HYL.out]; exact hpl)⟩
                      have QSr : Sr w3.heap.size wr (.slice (some ⟨gg, 0, none⟩) M1 cap') ys := own_kept HS5.out (fun k hk => by cases hk; exact RB.out.block gg hlt5)
                      have cy := QSr.at hy
                      have HYI := keep (HIN.out y (List.mem_of_getElem? hy))
                      clear QSr hy
                      obtain ⟨wo6, hwo6⟩ : ∃ x, x = wr := ⟨_, rfl⟩
                      subst hwo6
                      go_wp2
                      go_loopw [30, 147] (fun f i wr2 => ∃ m : Nat, m ≤ n ∧ i = .int .i64 m ∧ Kept (Below w5.heap.size w5 wr2) ∧ ∃ fb, f = .bool fb ∧ Kept (Hit y (Dc.keys l) m fb)) (fun _ i _ => n - (intOf i).toNat)
                      case atStart => exact ⟨0, Nat.zero_le _, rfl, RB, false, rfl, Hit.zero _ _⟩
                      case round =>
                        obtain ⟨m, hm, rfl, RB2, fb, rfl, HT⟩ := hrel
                        by_cases hml : m < n
                        · have hmz : (m : Int) < (n : Int) := by omega
                          obtain ⟨e, he⟩ : ∃ e, l[m]? = some e := ⟨_, List.getElem?_eq_getElem (by rw [HN.out]; exact hml)⟩
                          obtain ⟨c0, c1⟩ := (PB5.out.below RB2.out).2.2.1.at he
                          have HZ : Kept ((Dc.keys l)[m]? = some e.1) := by unfold Kept Dc.keys; rw [List.getElem?_map, he]; rfl
                          obtain ⟨ky, v⟩ := e
                          dsimp only at c0 c1 HZ
                          have HBX := keep (RB2.out.alloc RB2.out.size (.cells #[.string ky, .int .i64 v] 58))
                          have bx0 : (wr.alloc (.cells #[.string ky, .int .i64 v] 58)).cell? ⟨wr.heap.size, 0, none⟩ = some (.string ky) := by
                            rw [cell_of_row _ _ _ _ _ _ (heap_alloc_new _ _)]; rfl
                          obtain ⟨W1, hW1⟩ : ∃ W1, wr.alloc (.cells #[.string ky, .int .i64 v] 58) = W1 := ⟨_, rfl⟩
                          obtain ⟨X, hX⟩ : ∃ x, wr.heap.size = x := ⟨_, rfl⟩
                          rw [hW1] at bx0 HBX
                          rw [hX] at bx0
                          clear he
                          cases fb with
                          | true =>
                            have HT2 := keep HT.out.on
                            go_wp2
                            go_roundw
                            case measure => simp [intOf]; omega
                            case rel => exact ⟨m + 1, by omega, by go_num, HBX, true, rfl, HT2⟩
                          | false =>
                            by_cases hzk : ky = y
                            · subst hzk
                              have HT2 := keep (Hit.here HZ.out)
                              go_wp2
                              go_roundw
                              case measure => simp [intOf]; omega
                              case rel => exact ⟨m + 1, by omega, by go_num, HBX, true, rfl, HT2⟩
                            · have HT2 := keep (HT.out.not HZ.out hzk)
                              have hzb : (y.toList == ky.toList) = false := beq_eq_false_iff_ne.2 (fun e => hzk (bytes_eq e).symm)
                              go_wp2
                              go_roundw
                              case measure => simp [intOf]; omega
                              case rel => exact ⟨m + 1, by omega, by go_num, HBX, false, rfl, HT2⟩
                        · have hmz : ¬ (m : Int) < (n : Int) := by omega
                          have hmm : m = (Dc.keys l).length := by unfold Dc.keys; rw [List.length_map, HN.out]; omega
                          have hfb : fb = true := by have h1 := HT.out; rw [hmm] at h1; exact h1.all HYI.out
                          subst hfb
                          clear hmm
                          go_wp2
                          go_roundw
                          case measure => simp [intOf]; omega
                          case rel => exact ⟨p + 1, by omega, by go_num, RB2⟩
                    · have hpz : ¬ (p : Int) < (M1 : Int) := by omega
                      have hfin := PB5.out.2.2.2.2.1.trans (RB.out.mono PB5.out.2.2.2.2.1.size)
                      have HFIN := keep hfin
                      clear hfin
                      go_wp2
                      go_ret
                      exact ⟨rfl, HFIN.out⟩
end Go.Proofs.Ytbcmahhpdpdmcaa
