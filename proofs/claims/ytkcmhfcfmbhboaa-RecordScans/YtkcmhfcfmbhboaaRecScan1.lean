/-
  The statement's own walk: a scan of a record with changes between has told each field that was there all the while.
-/
import Derived.Test.YtkcmhfcfmbhboaaRecScan0
import Derived.Test.YtkcmhfcfmbhboaaRecDraws0
import Derived.Deep.QuietTactic
import Derived.BigQuiet
import Derived.Deep.CutBlock
namespace Go.Proofs.Ytkcmhfcfmbhboaa
open Go.RowKit Go.Shelf
theorem belR {B : Nat} {w w' : World} (h : Below B w w') (n : Nat) : Below B w (w'.drewN n) := ⟨h.os, h.tape, h.output, h.size, h.block⟩
theorem far_few {h : ByteArray → Nat} {N : Nat} {s : Sx} (hO : Okd h N s) (hN : N ≤ 2100000000000) (c : Nat) : far s c < 4 * N + 9 := by
  obtain ⟨hI, _, o1, o2, o3⟩ := hO
  by_cases h0 : s.old.length = 0
  · have hy := (none_of hI h0).1
    have hz : (tbl s (smN s)).length = 0 := by unfold tbl; split <;> omega
    unfold far
    rw [hz]
    have := Rv.rv_lt (Nat.log2 0) c
    have e : Nat.log2 0 = 0 := by decide
    rw [e] at this ⊢
    omega
  · obtain ⟨A, d, hL, _, _⟩ := Rv.lay_of hI h0 (by omega) (by omega)
    have := far_lt hL c
    omega
theorem or_no {a b : Bool} (h : (a || b) = false) : a = false ∧ b = false := by cases a <;> cases b <;> simp at h ⊢
/-- is a text among the first z? -/
def hitB (tl : List ByteArray) (f : ByteArray) (z : Nat) : Bool := (tl.take z).any fun t => decide (t = f)
theorem hit_iff {tl : List ByteArray} {f : ByteArray} {z : Nat} : hitB tl f z = true ↔ f ∈ tl.take z := by
  unfold hitB
  rw [List.any_eq_true]
  constructor
  · rintro ⟨t, ht, e⟩
    rw [← of_decide_eq_true e]
    exact ht
  · intro h
    exact ⟨f, h, decide_eq_true rfl⟩
theorem hit_no {tl : List ByteArray} {f : ByteArray} {z : Nat} (h : ¬ f ∈ tl.take z) : hitB tl f z = false := by
  cases e : hitB tl f z
  · rfl
  · exact absurd (hit_iff.1 e) h
theorem mem_take {tl : List ByteArray} {f t : ByteArray} {z : Nat} (h : tl[z]? = some t) : f ∈ tl.take (z + 1) ↔ f ∈ tl.take z ∨ t = f := by
  obtain ⟨hz, rfl⟩ := List.getElem?_eq_some_iff.1 h
  rw [List.take_succ_eq_append_getElem hz, List.mem_append, List.mem_singleton]
  exact ⟨fun h => h.imp id Eq.symm, fun h => h.imp id Eq.symm⟩
set_option maxRecDepth 100000 in
set_option maxHeartbeats 4000000 in
theorem scans_walk {h : ByteArray → Nat} (W : World) (x : Nat) (hH : HashIs x h) (so : Option Addr) (cap : Nat) (S : List Stp) (hS : Steps W so S) (so2 : Option Addr) (cap2 : Nat) (S2 : List Stp) (hS2 : Steps W so2 S2) :
    Calls Try.prog 4 #[.int .u64 x, .slice so S.length cap, .slice so2 S2.length cap2] W fun e w' => e = .returned (.bool true) ∧ Below W.heap.size W w' := by
  obtain ⟨n, hn⟩ : ∃ n, S.length = n := ⟨_, rfl⟩
  obtain ⟨n2, hn2⟩ : ∃ n2, S2.length = n2 := ⟨_, rfl⟩
  have HS := keep hS
  have HN := keep hn
  have HS2 := keep hS2
  have HN2 := keep hn2
  rw [hn, hn2]
  clear hS hn hS2 hn2
  go_enter Try.func4, Try.ntmps4
  go_wp2_with fail
  refine (rnew_any h W x 0).mono ?_
  rintro _ w1 ⟨rfl, hb1, hr1⟩
  have R1 : Kept (Rn h 0 W w1 (fun k => if k = W.heap.size then (5, 0) else (0, 0)) (W.heap.size + 1) W.heap.size x Dc.none0) :=
    ⟨hr1, by omega, fun k hk => by simp; omega, hb1⟩
  clear hb1 hr1
  go_wp2_with fail
  refine (rset_ok hH R1.out.1 (by omega) alw thr alw_sz thr_sz (fun _ => by rw [ln_none]; omega)).mono ?_
  rintro _ w3 ⟨rfl, r3, s3, q1, q2, q3⟩
  have I3 : Kept (DrI h W x 0 w3) := ⟨r3, s3, R1.out.step q1 q3, by rw [q2.2, lk_none, ln_none]; simp, by rw [q2.2, lk_none, ln_none]; simp⟩
  clear q1 q2 q3 R1
  go_upto_block 0 with fail
  go_cut [8] from 28 to 44 (fun _ wx => ∃ k : Nat, k ≤ 65536 ∧ Kept (DrI h W x k wx))
  case first =>
    go_wp2
    go_loopw [8] (fun i wr => ∃ k : Nat, k ≤ n ∧ k ≤ 65536 ∧ i = .int .i64 k ∧ Kept (DrI h W x k wr)) (fun i _ => 65536 - (intOf i).toNat)
    case atStart => exact ⟨0, Nat.zero_le _, Nat.zero_le _, rfl, I3⟩
    case round =>
      obtain ⟨k, hk, hk5, rfl, KI⟩ := hrel
      by_cases hlt : k < n ∧ k < 65536
      · have hl1 : decide ((k : Int) < (n : Int)) = true := decide_eq_true (by omega)
        have hl2 : decide ((k : Int) < 65536) = true := decide_eq_true (by omega)
        have hl1' : (k : Int) < (n : Int) := by omega
        have hk0 : (0 : Int) ≤ (k : Int) := by omega
        obtain ⟨r, s, hr, g1, g2⟩ := KI.out
        have hkF : k < S.length := by rw [HN.out]; exact hlt.1
        obtain ⟨a, rfl, hab, hsz, hjunk, hst0⟩ := HS.out k hkF
        have hst := hst0.bel hr.2.2.2 (by rw [add_block]; exact hab)
        clear hst0 hjunk
        obtain ⟨o, ho⟩ : ∃ o, S[k]'hkF = o := ⟨_, rfl⟩
        rw [ho] at hst hsz
        clear ho
        obtain ⟨op, who, f, v, nn, cnt⟩ := o
        obtain ⟨t0, t1, t2, t3, t4, t5⟩ := hst
        dsimp only at t2 hsz
        clear t0 t1 t3 t4 t5
        have HR := keep hr
        have HLT := keep hlt
        clear hr hlt hab hkF
        cases ht : tol f with
        | true =>
          have mS := rset_long HR.out.1 f exx (by rw [ht]; rfl)
          clear ht hsz
          go_wp2_with fail
          refine mS.mono ?_
          rintro _ w4 ⟨rfl, hb4, hr4⟩
          have I4 : Kept (DrI h W x (k + 1) w4) := ⟨r, s, (HR.out.below hb4).more (by omega), g1, by omega⟩
          clear hb4 hr4 mS
          go_wp2
          go_roundw
          case measure => simp [intOf]; have := HLT.out; omega
          case rel => exact ⟨k + 1, by have := HLT.out; omega, by have := HLT.out; omega, by go_num, I4⟩
        | false =>
          have mS := rset_ok hH HR.out.1 (by omega) f exx (tol_no ht) exx_sz (fun _ => by omega)
          clear ht hsz
          go_wp2_with fail
          refine mS.mono ?_
          rintro _ w4 ⟨rfl, r4, s4, q1, q2, q3⟩
          have I4 := keep (DrI.set HR.out g1 g2 q1 q2 q3)
          clear q1 q2 q3 mS
          go_wp2
          go_roundw
          case measure => simp [intOf]; have := HLT.out; omega
          case rel => exact ⟨k + 1, by have := HLT.out; omega, by have := HLT.out; omega, by go_num, I4⟩
      · have hstop : (¬ (k : Int) < (n : Int)) ∨ ((k : Int) < (n : Int) ∧ ¬ (k : Int) < 65536) := by
          by_cases h1 : k < n
          · exact .inr ⟨by omega, by omega⟩
          · exact .inl (by omega)
        rcases hstop with h1 | ⟨h1, h2⟩
        · go_wp2
          go_meet
          case rel => exact ⟨k, hk5, KI⟩
        · go_wp2
          go_meet
          case rel => exact ⟨k, hk5, KI⟩
  case rest =>
    obtain ⟨k, hk5, KI⟩ := hcut
    obtain ⟨r, s, hr, g1, g2⟩ := KI.out
    have HR := keep hr
    have mP := rpairs_any wc r _ _ s hr.1 (by omega)
    have G1 := keep g1
    have G2 := keep g2
    clear hr KI I3 HS HN g1 g2
    obtain ⟨wo, hwo⟩ : ∃ o, o = wc := ⟨_, rfl⟩
    subst hwo
    go_wp2_with fail
    refine mP.mono ?_
    rintro _ w5 ⟨v5, L, rfl, hLs, hP, hb5⟩
    have hI := HR.out.1.1.2.1
    have hRw : Rw wo.heap.size w5 v5 L := by obtain ⟨g, rfl, ho⟩ := hP; exact ho
    have hin : ∀ e ∈ L, Has s e.1 := fun e he => (has_mem hI).2 (List.mem_map.2 ⟨e, hLs.1.subset he, rfl⟩)
    have hLl : L.length ≤ 65537 := by rw [hLs.1.length_eq]; show ln s ≤ _; have := G2.out; omega
    have hnd : (Dc.keys L).Nodup := (Dc.keys_perm hLs.1).nodup_iff.2 (all_nodup hI)
    obtain ⟨c1, l1, mN, hc1, hl1, hcov, hup⟩ := rscan_any w5 r _ _ s (HR.out.1.below hb5) (by omega) 0 (by decide) 1
    have hne : 0 < l1.length := by
      rcases hup with h0 | h0
      · have hpos : 0 < L.length := by rw [hLs.1.length_eq]; show 0 < ln s; have := G1.out; omega
        obtain ⟨e, he⟩ : ∃ e, e ∈ L := ⟨_, List.getElem_mem hpos⟩
        exact List.length_pos_of_mem (hcov e.1 (hin e he) (by rw [Rv.plc_zero]; exact Nat.zero_le _) (.inl h0))
      · exact h0.2.2
    have HD1 : Kept (Dn h c1 L l1) := fun e he hdn => hcov e.1 (hin e he) (by rw [Rv.plc_zero]; exact Nat.zero_le _) hdn
    have HIN := keep hin
    have HND := keep hnd
    have HRW := keep hRw
    have HB5 := keep hb5
    have HL1 := keep hl1
    clear mP hLs hP hb5 hI hRw hin hnd hcov hup hl1
    go_wp2_with fail
    refine mN.mono ?_
    rintro _ w6 ⟨⟨vt, rfl, hkt⟩, hb6⟩
    have MI := keep (mr_new HR.out HB5.out HRW.out hb6 hkt)
    clear mN hkt hb6 HB5 HRW
    go_upto_block 2 with fail
    go_cut [9, 10, 11, 12, 13, 14, 15] from 52 to 103 (fun A cv T _ _ _ _ wx => ∃ (c j : Nat) (r : Roles) (s : Sx) (tl : List ByteArray) (al : List Ent), c < 2 ^ 64 ∧ j ≤ 65536 ∧ tl.length ≤ (65537 + 0) * 262200 ∧ al.length ≤ 65537 ∧ cv = .int .u64 (c : Int) ∧ Kept (Mr h (k + 1 + j) W wx r x s T tl A al) ∧ Kept (∀ e ∈ al, Has s e.1) ∧ Kept (Dn h c al tl) ∧ Kept (0 < tl.length))
    case first =>
      go_wp2
      go_loopw [9, 10, 11, 12] (fun A cv T i wr => ∃ (c j : Nat) (r : Roles) (s : Sx) (tl : List ByteArray) (al : List Ent), c < 2 ^ 64 ∧ j ≤ n2 ∧ j ≤ 65536 ∧ tl.length ≤ (j + 1) * 262200 ∧ al.length ≤ 65537 ∧ cv = .int .u64 (c : Int) ∧ i = .int .i64 (j : Int) ∧ Kept (Mr h (k + 1 + j) W wr r x s T tl A al) ∧ Kept (∀ e ∈ al, Has s e.1) ∧ Kept (Dn h c al tl) ∧ Kept ((Dc.keys al).Nodup) ∧ Kept (0 < tl.length) ∧ Kept (ln s ≤ k + 1 + j)) (fun _ _ _ i _ => 65536 - (intOf i).toNat)
      case atStart => exact ⟨c1, 0, r, s, l1, L, hc1, Nat.zero_le _, Nat.zero_le _, by have := HL1.out; omega, hLl, rfl, rfl, MI, HIN, HD1, HND, hne, G2⟩
      case round =>
        clear MI HIN HD1 HND HL1 hc1 hne hLl HR G1 G2
        obtain ⟨c, j, r, s, tl, al, hc, hj, hj2, htl, hall, rfl, rfl, KM, KI, KD, KN, KT, KLN⟩ := hrel
        by_cases hgo : j < n2 ∧ j < 65536 ∧ c ≠ 0
        · obtain ⟨g1, g2, g3⟩ := hgo
          have z1 : decide ((j : Int) < (n2 : Int)) = true := decide_eq_true (by omega)
          have z1' : (j : Int) < (n2 : Int) := by omega
          have z2 : decide ((j : Int) < 65536) = true := decide_eq_true (by omega)
          have z3 : ((c : Int) != 0) = true := by simp; omega
          have z4 : ((c : Int) == 0) = false := beq_eq_false_iff_ne.2 (by omega)
          have hj0 : (0 : Int) ≤ (j : Int) := by omega
          have hkF : j < S2.length := by rw [HN2.out]; exact g1
          obtain ⟨a, rfl, hab, hsz, hjunk, hst0⟩ := HS2.out j hkF
          have hst := hst0.bel KM.out.rb.1.2.2.2 (by rw [add_block]; exact hab)
          clear hst0 hjunk
          obtain ⟨o, ho⟩ : ∃ o, S2[j]'hkF = o := ⟨_, rfl⟩
          rw [ho] at hst hsz
          clear ho
          obtain ⟨op, who, f, v, nn, cnt⟩ := o
          obtain ⟨t0, t1, t2, t3, t4, t5⟩ := hst
          dsimp only at t0 t1 t2 t3 t4 t5 hsz
          obtain ⟨X, hX⟩ : ∃ X, wr.heap.size = X := ⟨_, rfl⟩
          obtain ⟨W1, hW1⟩ : ∃ W1, wr.alloc (.cells #[.int .i64 op, .int .i64 who, .string f, .string v, .int .u64 nn, .int .i64 cnt] 28) = W1 := ⟨_, rfl⟩
          have hbx : Below wr.heap.size wr W1 := by rw [← hW1]; exact (Below.refl _ _).alloc (Nat.le_refl _) _
          have hz1 : X < W1.heap.size := by rw [← hW1, ← hX]; simp
          have hx1 : W1.heap[X]? = some (.cells (Stp.cells ⟨op, who, f, v, nn, cnt⟩) 28 (0, 0)) := by rw [← hW1, ← hX]; exact heap_alloc_new _ _
          have hXr : rr r (W.heap.size + 1) X = (0, 0) := KM.out.rb.1.fresh (by omega)
          have hBX := box_at hx1
          dsimp only at hBX
          obtain ⟨b0, b2, b3, b5⟩ := hBX
          have HX1 := keep hx1
          have HXR := keep hXr
          have HZ1 := keep hz1
          have HSZ := keep hsz
          have M1 := keep (KM.out.below hbx)
          have HTL := keep htl
          have HCC := keep hc
          have HG := keep (And.intro g1 g2)
          clear hbx hz1 hx1 hXr hsz KM hkF hab htl hc g1 g2 g3
          have moved : Kept (∀ {w' : World}, w'.heap[X]? = W1.heap[X]? → w'.cell? ⟨X, 2, none⟩ = some (.string f) ∧ w'.cell? ⟨X, 5, none⟩ = some (.int .i64 cnt)) := fun hf => by
            have := box_at (hf.trans HX1.out)
            exact ⟨this.2.1, this.2.2.2⟩
          by_cases c2 : op = 2
          · subst c2
            have mD := rdel_any hH M1.out.rb.1.1 (by omega) f HSZ.out.1
            go_wp2_with fail
            refine mD.mono ?_
            rintro _ w2 ⟨rfl, r8, s8, q1, q2, q3⟩
            have M2 := keep (M1.out.op q1 q3)
            have hX2 := (q3.2.2 X HZ1.out HXR.out).1
            obtain ⟨d2, d5⟩ := moved.out hX2
            have HX2 := keep hX2
            have Q2 := keep q2
            have HX2l : Kept (X < w2.heap.size) := Nat.lt_of_lt_of_le HZ1.out q3.2.1
            have L8 : Kept (ln s8 ≤ k + 1 + (j + 1)) := by have := KLN.out; rw [q2.2]; show _ ≤ _; omega
            have tab : (∃ (p : Nat) (y : ByteArray), al[p]? = some (f, y)) ∨ ∀ e ∈ al, e.1 ≠ f := by
              by_cases hh : ∃ e ∈ al, e.1 = f
              · obtain ⟨e, he, rfl⟩ := hh
                obtain ⟨p, hp⟩ := List.getElem?_of_mem he
                exact .inl ⟨p, e.2, hp⟩
              · exact .inr (fun e he h1 => hh ⟨e, he, h1⟩)
            obtain ⟨aa0, hfind, p, hpp, hrest⟩ : ∃ aa0 : Int, Calls Try.prog 7 #[_, .string f] w2 (fun e w' => e = .returned (.int .i64 aa0) ∧ w' = w2) ∧ ∃ p : Nat, (∀ k : Nat, k < al.length → ((k : Int) = aa0 ↔ k = p)) ∧ ∀ e ∈ al.eraseIdx p, e ∈ al ∧ e.1 ≠ f := by
              rcases tab with ⟨p, y, hp⟩ | hno
              · refine ⟨(p : Int), find_yes M2.out.rb.2.1 (by omega) KN.out hp, p, fun k _ => by omega, fun e he => ?_⟩
                rw [erase_is KN.out hp] at he
                unfold Dc.without at he
                rw [List.mem_filter] at he
                exact ⟨he.1, by simpa using he.2⟩
              · refine ⟨-1, find_no M2.out.rb.2.1 (by omega) hno, al.length, fun k hk => by omega, fun e he => ?_⟩
                rw [List.eraseIdx_of_length_le (Nat.le_refl _)] at he
                exact ⟨he, hno e he⟩
            have mO := wout_any _ _ _ _ M2.out.rb.2.1 aa0 p hpp (by omega)
            have HRST := keep hrest
            clear mD q1 q2 q3 b0 b2 b3 b5 hpp hrest tab M1 HXR KLN hX2
            go_wp2_with fail
            refine hfind.mono ?_
            rintro _ w' ⟨rfl, hw'⟩
            obtain rfl := hw'.symm
            clear hfind
            go_wp2_with fail
            refine mO.mono ?_
            rintro _ w8 ⟨⟨v8, rfl, hR8⟩, hb8⟩
            have M8 := keep ((M2.out.stay hb8 hR8).more (N' := k + 1 + j + 1) (by omega))
            obtain ⟨d2', d5'⟩ := moved.out ((hb8.block X HX2l.out).trans HX2.out)
            have d5 := d5'
            obtain ⟨al8, ha8⟩ : ∃ al8, al8 = al.eraseIdx p := ⟨_, rfl⟩
            have HRST8 : Kept (∀ e ∈ al8, e ∈ al ∧ e.1 ≠ f) := by rw [ha8]; exact HRST
            have hal8 : al8.length ≤ 65537 := by rw [ha8]; have := (List.eraseIdx_sublist al p).length_le; omega
            have N8 : Kept ((Dc.keys al8).Nodup) := by rw [ha8]; exact ((List.eraseIdx_sublist al p).map Prod.fst).nodup KN.out
            have K8 : Kept (∀ e ∈ al8, Has s8 e.1) := fun e he => has_del Q2.out (KI.out e (HRST8.out e he).1) (HRST8.out e he).2
            have D8 : Kept (Dn h c al8 tl) := fun e he hd => KD.out e (HRST8.out e he).1 hd
            rw [← ha8] at M8
            clear mO hR8 hb8 M2 HX2 HRST HRST8 ha8 d2 d2' d5' Q2 KI KD KN hall HX2l
            by_cases qc : 0 ≤ cnt
            · obtain ⟨c', l', mN, hc', hl', hcov, _⟩ := rscan_any w8 r8 _ _ s8 M8.out.rb.1.1 (by omega) c HCC.out cnt
              have qcb : decide ((0 : Int) ≤ cnt) = true := decide_eq_true qc
              have HCV := keep hcov
              clear hcov
              go_wp2_with fail
              refine mN.mono ?_
              rintro _ w9 ⟨⟨v9, rfl, hk9⟩, hb9⟩
              have hsum : tl.length + l'.length ≤ (j + 1 + 1) * 262200 := by have := HTL.out; omega
              obtain ⟨T', w10, r1, m10⟩ := M8.out.add hb9 hk9 (by omega)
              have R1 := keep r1
              have M10 := keep m10
              have KD10 := keep (D8.out.next K8.out HCV.out)
              have HSUM := keep hsum
              have HC' := keep hc'
              have KT10 : Kept (0 < (tl ++ l').length) := by show 0 < (tl ++ l').length; rw [List.length_append]; have := KT.out; omega
              clear mN hk9 hb9 r1 m10 HCV M8 D8 hsum hl' hc' z1 z1' z2 z3 z4 d5 qcb qc
              go_wp2_with (at_builtin; refine wpList_app_run rfl _ _ _ rfl _ _ _ rfl rfl R1.out ?_)
              go_roundw
              case measure => simp [intOf]; have := HG.out; omega
              case rel => exact ⟨c', j + 1, r8, s8, tl ++ l', al8, HC'.out, by have := HG.out; omega, by have := HG.out; omega, by rw [List.length_append]; exact HSUM.out, hal8, rfl, by go_num, M10, K8, KD10, N8, KT10, L8⟩
            · have qcb : decide ((0 : Int) ≤ cnt) = false := decide_eq_false qc
              have h9 : tl.length ≤ (j + 1 + 1) * 262200 := Nat.le_trans HTL.out (Nat.mul_le_mul_right 262200 (Nat.le_succ (j + 1)))
              have H9 := keep h9
              clear h9 z1 z1' z2 z3 z4
              go_wp2
              go_roundw
              case measure => simp [intOf]; have := HG.out; omega
              case rel => exact ⟨c, j + 1, r8, s8, tl, al8, HCC.out, by have := HG.out; omega, by have := HG.out; omega, H9.out, hal8, rfl, by go_num, M8, K8, D8, N8, KT, L8⟩
          · have c2b : (op == 2) = false := beq_eq_false_iff_ne.2 c2
            cases htf : (tol f || tol v) with
            | true =>
              have mS := rset_long M1.out.rb.1.1 f v htf
              clear htf
              go_wp2_with fail
              refine mS.mono ?_
              rintro _ w8 ⟨rfl, hb8, _⟩
              have M8 := keep ((M1.out.below hb8).more (N' := k + 1 + j + 1) (by omega))
              obtain ⟨d2, d5⟩ := moved.out (hb8.block X HZ1.out)
              have K8 := KI
              have D8 := KD
              have N8 := KN
              have L8 : Kept (ln s ≤ k + 1 + (j + 1)) := by have := KLN.out; show _ ≤ _; omega
              have hal8 := hall
              obtain ⟨r8, hr8⟩ : ∃ r8, r8 = r := ⟨_, rfl⟩
              obtain ⟨s8, hs8⟩ : ∃ s8, s8 = s := ⟨_, rfl⟩
              obtain ⟨al8, ha8⟩ : ∃ al8, al8 = al := ⟨_, rfl⟩
              subst hr8 hs8 ha8
              clear mS hb8 b0 b2 b3 b5 d2 HXR KLN M1
              by_cases qc : 0 ≤ cnt
              · obtain ⟨c', l', mN, hc', hl', hcov, _⟩ := rscan_any w8 r8 _ _ s8 M8.out.rb.1.1 (by omega) c HCC.out cnt
                have qcb : decide ((0 : Int) ≤ cnt) = true := decide_eq_true qc
                have HCV := keep hcov
                clear hcov
                go_wp2_with fail
                refine mN.mono ?_
                rintro _ w9 ⟨⟨v9, rfl, hk9⟩, hb9⟩
                have hsum : tl.length + l'.length ≤ (j + 1 + 1) * 262200 := by have := HTL.out; omega
                obtain ⟨T', w10, r1, m10⟩ := M8.out.add hb9 hk9 (by omega)
                have R1 := keep r1
                have M10 := keep m10
                have KD10 := keep (D8.out.next K8.out HCV.out)
                have HSUM := keep hsum
                have HC' := keep hc'
                have KT10 : Kept (0 < (tl ++ l').length) := by show 0 < (tl ++ l').length; rw [List.length_append]; have := KT.out; omega
                clear mN hk9 hb9 r1 m10 HCV M8 D8 hsum hl' hc' z1 z1' z2 z3 z4 d5 qcb qc
                go_wp2_with (at_builtin; refine wpList_app_run rfl _ _ _ rfl _ _ _ rfl rfl R1.out ?_)
                go_roundw
                case measure => simp [intOf]; have := HG.out; omega
                case rel => exact ⟨c', j + 1, r8, s8, tl ++ l', al8, HC'.out, by have := HG.out; omega, by have := HG.out; omega, by rw [List.length_append]; exact HSUM.out, hal8, rfl, by go_num, M10, K8, KD10, N8, KT10, L8⟩
              · have qcb : decide ((0 : Int) ≤ cnt) = false := decide_eq_false qc
                have h9 : tl.length ≤ (j + 1 + 1) * 262200 := Nat.le_trans HTL.out (Nat.mul_le_mul_right 262200 (Nat.le_succ (j + 1)))
                have H9 := keep h9
                clear h9 z1 z1' z2 z3 z4
                go_wp2
                go_roundw
                case measure => simp [intOf]; have := HG.out; omega
                case rel => exact ⟨c, j + 1, r8, s8, tl, al8, HCC.out, by have := HG.out; omega, by have := HG.out; omega, H9.out, hal8, rfl, by go_num, M8, K8, D8, N8, KT, L8⟩
            | false =>
              have hf1 : tol f = false := (or_no htf).1
              have hv1 : tol v = false := (or_no htf).2
              have mS := rset_ok hH M1.out.rb.1.1 (by omega) f v (tol_no hf1) (tol_no hv1) (fun _ => by have := KLN.out; omega)
              clear htf hf1 hv1
              go_wp2_with fail
              refine mS.mono ?_
              rintro _ w8 ⟨rfl, r8, s8, q1, q2, q3⟩
              have M8 := keep (M1.out.op q1 q3)
              obtain ⟨d2, d5⟩ := moved.out (q3.2.2 X HZ1.out HXR.out).1
              have K8 : Kept (∀ e ∈ al, Has s8 e.1) := fun e he => has_set q2 (KI.out e he)
              have D8 := KD
              have N8 := KN
              have L8 : Kept (ln s8 ≤ k + 1 + (j + 1)) := by have := KLN.out; rw [q2.2]; show _ ≤ _; split <;> omega
              have hal8 := hall
              obtain ⟨al8, ha8⟩ : ∃ al8, al8 = al := ⟨_, rfl⟩
              subst ha8
              clear mS q1 q2 q3 b0 b2 b3 b5 d2 HXR KLN M1 KI
              by_cases qc : 0 ≤ cnt
              · obtain ⟨c', l', mN, hc', hl', hcov, _⟩ := rscan_any w8 r8 _ _ s8 M8.out.rb.1.1 (by omega) c HCC.out cnt
                have qcb : decide ((0 : Int) ≤ cnt) = true := decide_eq_true qc
                have HCV := keep hcov
                clear hcov
                go_wp2_with fail
                refine mN.mono ?_
                rintro _ w9 ⟨⟨v9, rfl, hk9⟩, hb9⟩
                have hsum : tl.length + l'.length ≤ (j + 1 + 1) * 262200 := by have := HTL.out; omega
                obtain ⟨T', w10, r1, m10⟩ := M8.out.add hb9 hk9 (by omega)
                have R1 := keep r1
                have M10 := keep m10
                have KD10 := keep (D8.out.next K8.out HCV.out)
                have HSUM := keep hsum
                have HC' := keep hc'
                have KT10 : Kept (0 < (tl ++ l').length) := by show 0 < (tl ++ l').length; rw [List.length_append]; have := KT.out; omega
                clear mN hk9 hb9 r1 m10 HCV M8 D8 hsum hl' hc' z1 z1' z2 z3 z4 d5 qcb qc
                go_wp2_with (at_builtin; refine wpList_app_run rfl _ _ _ rfl _ _ _ rfl rfl R1.out ?_)
                go_roundw
                case measure => simp [intOf]; have := HG.out; omega
                case rel => exact ⟨c', j + 1, r8, s8, tl ++ l', al8, HC'.out, by have := HG.out; omega, by have := HG.out; omega, by rw [List.length_append]; exact HSUM.out, hal8, rfl, by go_num, M10, K8, KD10, N8, KT10, L8⟩
              · have qcb : decide ((0 : Int) ≤ cnt) = false := decide_eq_false qc
                have h9 : tl.length ≤ (j + 1 + 1) * 262200 := Nat.le_trans HTL.out (Nat.mul_le_mul_right 262200 (Nat.le_succ (j + 1)))
                have H9 := keep h9
                clear h9 z1 z1' z2 z3 z4
                go_wp2
                go_roundw
                case measure => simp [intOf]; have := HG.out; omega
                case rel => exact ⟨c, j + 1, r8, s8, tl, al8, HCC.out, by have := HG.out; omega, by have := HG.out; omega, H9.out, hal8, rfl, by go_num, M8, K8, D8, N8, KT, L8⟩
        · have hex : (¬ (j : Int) < (n2 : Int)) ∨ ((j : Int) < (n2 : Int) ∧ ¬ (j : Int) < 65536) ∨ ((j : Int) < (n2 : Int) ∧ (j : Int) < 65536 ∧ c = 0) := by omega
          have htl0 : tl.length ≤ (65537 + 0) * 262200 := Nat.le_trans htl (Nat.mul_le_mul_right 262200 (by omega))
          have HTL0 := keep htl0
          have HCC := keep hc
          clear htl htl0 hgo hc
          rcases hex with h3 | ⟨h3, h4⟩ | ⟨h3, h4, h5⟩
          · go_wp2
            go_meet
            case rel => exact ⟨c, j, r, s, tl, al, HCC.out, hj2, HTL0.out, hall, rfl, KM, KI, KD, KT⟩
          · go_wp2
            go_meet
            case rel => exact ⟨c, j, r, s, tl, al, HCC.out, hj2, HTL0.out, hall, rfl, KM, KI, KD, KT⟩
          · subst h5
            go_wp2
            go_meet
            case rel => exact ⟨0, j, r, s, tl, al, HCC.out, hj2, HTL0.out, hall, rfl, KM, KI, KD, KT⟩
    case rest =>
      clear MI HIN HD1 HND HL1 hc1 hne hLl HR G1 G2 HS2 HN2
      obtain ⟨c, j, r, s, tl, al, hc, hj2, htl0, hall, rfl, KM, KI, KD, KT⟩ := hcut
      have hfar := far_few KM.out.rb.1.1.1.2 (by omega)
      have FAR : Kept (∀ c, far s c < 524320) := fun c => Nat.lt_of_lt_of_le (hfar c) (by omega)
      obtain ⟨ao, ca, rfl, hao⟩ := KM.out.rb.2.1.form
      obtain ⟨m, hm⟩ : ∃ m, al.length = m := ⟨_, rfl⟩
      have HAO := keep hao
      have HM := keep hm
      have HTL0 := keep htl0
      rw [hm] at KM hall ⊢
      clear hao hm hfar htl0
      go_wp2
      go_loopw [10, 11, 16] (fun cv T nv wr => ∃ (c q : Nat) (tl : List ByteArray), c < 2 ^ 64 ∧ q ≤ 524320 ∧ cv = .int .u64 (c : Int) ∧ nv = .int .i64 (q : Int) ∧ tl.length ≤ (65537 + q) * 262200 ∧ Kept (Mr h (k + 1 + j) W wr r x s T tl (.slice ao m ca) al) ∧ Kept (Dn h c al tl) ∧ Kept (0 < tl.length) ∧ Kept (c = 0 ∨ q ≤ far s c)) (fun _ _ nv _ => 4194304 - (intOf nv).toNat)
      case atStart => exact ⟨_, 0, tl, hc, by omega, rfl, rfl, HTL0.out, KM, KD, KT, (Or.inr (Nat.zero_le _) : _ ∨ 0 ≤ far s _)⟩
      case round =>
        clear KM KD KT HTL0 hc
        obtain ⟨c, q, tl, hc, hq, rfl, rfl, htl, KM, KD, KT, KF⟩ := hrel
        by_cases hc0 : c = 0
        · subst hc0
          have KA : Kept (∀ e ∈ al, e.1 ∈ tl) := fun e he => KD.out e he (.inl rfl)
          obtain ⟨tov, tc, rfl, hto⟩ := ks_form KM.out.told
          obtain ⟨tn, htn⟩ : ∃ tn, tl.length = tn := ⟨_, rfl⟩
          have hpos : 0 < tn := by rw [← htn]; exact KT.out
          have htb : tn ≤ 8000000000000 := by rw [← htn]; omega
          have HTO := keep hto
          have HTN := keep htn
          rw [htn] at KM ⊢
          rw [show (((0 : Nat) : Int)) = 0 from rfl]
          clear htn hto htl KD KT KF
          obtain ⟨wq, hwq⟩ : ∃ o, o = wr := ⟨_, rfl⟩
          subst hwq
          go_wp2
          go_loopw [19] (fun i wr => ∃ y : Nat, y ≤ m ∧ i = .int .i64 (y : Int) ∧ Kept (Below wq.heap.size wq wr)) (fun i _ => m - (intOf i).toNat)
          case atStart => exact ⟨0, Nat.zero_le _, rfl, Below.refl _ _⟩
          case round =>
            obtain ⟨y, hy, rfl, KB⟩ := hrel
            by_cases hlty : y < m
            · have hzy : (y : Int) < (m : Int) := by omega
              have hz0 : (0 : Int) ≤ (y : Int) := by omega
              obtain ⟨e, he⟩ : ∃ e, al[y]? = some e := ⟨_, List.getElem?_eq_getElem (by rw [HM.out]; exact hlty)⟩
              obtain ⟨ga, rfl⟩ : ∃ ga, ao = some ⟨ga, 0, none⟩ := by
                rcases HAO.out with h | ⟨ga, h, _⟩
                · rw [h] at he; simp at he
                · exact ⟨ga, h⟩
              obtain ⟨gt, rfl⟩ : ∃ gt, tov = some ⟨gt, 0, none⟩ := by
                rcases HTO.out with h | ⟨gt, h, _⟩
                · have := HTN.out; rw [h] at this; simp at this; omega
                · exact ⟨gt, h⟩
              have hmem := KA.out e (List.mem_of_getElem? he)
              obtain ⟨e1, e2⟩ := e
              dsimp only at hmem
              have HME := keep hmem
              have HE := keep he
              clear he hmem
              obtain ⟨wy, hwy⟩ : ∃ o, o = wr := ⟨_, rfl⟩
              subst hwy
              go_wp2
              go_loopw [20, 21] (fun sv kv wr => ∃ z : Nat, z ≤ tn ∧ kv = .int .i64 (z : Int) ∧ sv = .bool (hitB tl e1 z) ∧ Kept (Below wq.heap.size wq wr)) (fun _ kv _ => tn - (intOf kv).toNat)
              case atStart => exact ⟨0, Nat.zero_le _, rfl, rfl, KB⟩
              case round =>
                obtain ⟨z, hz, rfl, rfl, KZ⟩ := hrel
                by_cases hltz : z < tn
                · have hzz : (z : Int) < (tn : Int) := by omega
                  have hz00 : (0 : Int) ≤ (z : Int) := by omega
                  obtain ⟨t, ht⟩ : ∃ t, tl[z]? = some t := ⟨_, List.getElem?_eq_getElem (by rw [HTN.out]; exact hltz)⟩
                  have hmt := mem_take (f := e1) ht
                  have MZ := KM.out.below KZ.out
                  obtain ⟨a0, a1⟩ := MZ.rb.2.1.at HE.out
                  have b0 := MZ.told.at ht
                  dsimp only at a0
                  clear a1 MZ ht
                  have HMT := keep hmt
                  clear hmt
                  cases hd : hitB tl e1 z with
                  | true =>
                    have HD := keep (hit_iff.1 hd)
                    clear hd
                    go_wp2_with fail
                    go_quiet (fail)
                    go_wp2
                    go_roundw
                    case measure => simp [intOf]; omega
                    case rel => exact ⟨z + 1, by omega, by go_num, by rw [hit_iff.2 (HMT.out.2 (.inl HD.out))], belR KZ.out _⟩
                  | false =>
                    have HD : Kept (¬ e1 ∈ tl.take z) := fun hh => by rw [hit_iff.2 hh] at hd; cases hd
                    clear hd
                    by_cases hte : t = e1
                    · have htb3 : (t.toList == e1.toList) = true := by rw [hte]; simp
                      have HTE := keep hte
                      clear hte
                      go_wp2_with fail
                      go_quiet (fail)
                      go_wp2
                      go_roundw
                      case measure => simp [intOf]; omega
                      case rel => exact ⟨z + 1, by omega, by go_num, by rw [hit_iff.2 (HMT.out.2 (.inr HTE.out))], belR KZ.out _⟩
                    · have htb2 : (t.toList == e1.toList) = false := beq_eq_false_iff_ne.2 (fun e => hte (bytes_eq e))
                      have HTE := keep hte
                      clear hte
                      go_wp2_with fail
                      go_quiet (fail)
                      go_wp2
                      go_roundw
                      case measure => simp [intOf]; omega
                      case rel => exact ⟨z + 1, by omega, by go_num, by rw [hit_no (fun h => (HMT.out.1 h).elim HD.out HTE.out)], belR KZ.out _⟩
                · have hzz : ¬ (z : Int) < (tn : Int) := by omega
                  obtain rfl : z = tn := by omega
                  have hfull : e1 ∈ tl.take z := by rw [List.take_of_length_le (by rw [HTN.out]; exact Nat.le_refl _)]; exact HME.out
                  rw [hit_iff.2 hfull]
                  clear hfull
                  go_wp2
                  go_roundw
                  case measure => simp [intOf]; omega
                  case rel => exact ⟨y + 1, by omega, by go_num, KZ⟩
            · have hzy : ¬ (y : Int) < (m : Int) := by omega
              have hp1 : (0 : Int) < (tn : Int) := by omega
              have B9 := keep ((KM.out.below KB.out).rb.1.2.2.2)
              go_wp2
              go_ret
              exact ⟨by simp, B9.out⟩
        · have hql : q ≤ far s c := KF.out.resolve_left hc0
          have hqf := FAR.out c
          have z2 : decide ((q : Int) < 4194304) = true := decide_eq_true (by omega)
          have z3 : ((c : Int) != 0) = true := by simp; omega
          have z4 : ((c : Int) == 0) = false := beq_eq_false_iff_ne.2 (by omega)
          obtain ⟨c', l', mN, hc', hl', hcov, hup⟩ := rscan_any wr r _ _ s KM.out.rb.1.1 (by omega) c hc 50
          have KI0 := KI
          have hsum : tl.length + l'.length ≤ (65537 + (q + 1)) * 262200 := by omega
          have KF' : Kept (c' = 0 ∨ q + 1 ≤ far s c') := hup.imp id (fun h => by omega)
          have HCV := keep hcov
          have HSUM := keep hsum
          have HC' := keep hc'
          have hq1 : q + 1 ≤ 524320 := by omega
          clear hcov hup hql hqf hc0 hc hc' hl' hsum
          go_wp2_with fail
          refine mN.mono ?_
          rintro _ w9 ⟨⟨v9, rfl, hk9⟩, hb9⟩
          obtain ⟨T', w10, r1, m10⟩ := KM.out.add hb9 hk9 (by have := HSUM.out; omega)
          have R1 := keep r1
          have M10 := keep m10
          have KD10 := keep (KD.out.next KI.out HCV.out)
          have KT10 : Kept (0 < (tl ++ l').length) := by show 0 < (tl ++ l').length; rw [List.length_append]; have := KT.out; omega
          clear mN hk9 hb9 r1 m10 HCV KM KD z2 z3 z4 htl
          go_wp2_with (at_builtin; refine wpList_app_run rfl _ _ _ rfl _ _ _ rfl rfl R1.out ?_)
          go_roundw
          case measure => simp [intOf]; omega
          case rel => exact ⟨c', q + 1, tl ++ l', HC'.out, hq1, rfl, by go_num, by rw [List.length_append]; exact HSUM.out, M10, KD10, KT10, KF'⟩
end Go.Proofs.Ytkcmhfcfmbhboaa
