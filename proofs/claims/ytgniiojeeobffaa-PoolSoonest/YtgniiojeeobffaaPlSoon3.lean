/-
  The statement's own walk: of candidates of unlike keys those that come soonest are kept, and are taken in their order.
-/
import Derived.Test.YtgniiojeeobffaaPlSoon1
import Derived.Deep.CutRange
import Derived.Deep.CutBlock
namespace Go.Proofs.Ytgniiojeeobffaa
open Go.RowKit Go.Shelf
set_option linter.unusedVariables false
set_option linter.unusedSimpArgs false
theorem Row.shape {w : World} {u : Value} {l : List Ent} (h : Row w u l) : ∃ ao n c, u = .slice ao n c ∧ l.length = n ∧ (0 < n → ∃ g, ao = some ⟨g, 0, none⟩) := by
  rcases h.form with ⟨rfl, rfl⟩ | ⟨g, c, rfl, _⟩
  · exact ⟨_, _, _, rfl, rfl, fun h => by omega⟩
  · exact ⟨_, _, _, rfl, rfl, fun _ => ⟨g, rfl⟩⟩
/-- the two cells of the j-th of a row -/
theorem Row.two {w : World} {g n c : Nat} {l : List Ent} (h : Row w (.slice (some ⟨g, 0, none⟩) n c) l) (hn : l.length = n) {j : Nat} {x : Ent} (hj : l[j]? = some x) : w.cell? ⟨g, j * 2, none⟩ = some (.string x.1) ∧ w.cell? ⟨g, j * 2 + 1, none⟩ = some (.int .u64 x.2) := by
  unfold Row at h
  rw [hn] at h
  exact cel_of h j x hj
set_option maxRecDepth 100000 in
set_option maxHeartbeats 8000000 in
theorem soonest_walk (W : World) (most : Int) (so : Option Addr) (cap : Nat) (S : List Ent) (hS : Cds W so S) (hlen : S.length ≤ 5864062014634) :
    Calls Try.prog 5 #[.int .i64 most, .slice so S.length cap] W fun e w' => e = .returned (.bool true) ∧ Below W.heap.size W w' := by
  have MW := keep (wakes_any W)
  by_cases hout : most < 1 ∨ 16 < most
  · clear hS hlen
    generalize S.length = nS
    by_cases h1 : most < 1
    · have h1b : decide (most < 1) = true := decide_eq_true h1
      go_enter Try.func5, Try.ntmps5
      go_wp2_with fail
      refine MW.out.mono ?_
      rintro _ w1 ⟨rfl, hb1⟩
      have B1 := keep hb1
      have MN := keep (new_no w1 most hout)
      clear hb1 MW hout
      go_wp2_with fail
      refine MN.out.mono ?_
      rintro _ w2 ⟨rfl, hw⟩
      obtain rfl := hw.symm
      clear MN
      go_wp2
      go_ret
      exact ⟨by simp, B1.out⟩
    · have h2 : 16 < most := by omega
      have h1b : decide (most < 1) = false := decide_eq_false h1
      have h2b : decide (16 < most) = true := decide_eq_true h2
      go_enter Try.func5, Try.ntmps5
      go_wp2_with fail
      refine MW.out.mono ?_
      rintro _ w1 ⟨rfl, hb1⟩
      have B1 := keep hb1
      have MN := keep (new_no w1 most hout)
      clear hb1 MW hout
      go_wp2_with fail
      refine MN.out.mono ?_
      rintro _ w2 ⟨rfl, hw⟩
      obtain rfl := hw.symm
      clear MN
      go_wp2
      go_ret
      exact ⟨by simp, B1.out⟩
  · obtain ⟨m, rfl⟩ : ∃ m : Nat, most = (m : Int) := ⟨most.toNat, by omega⟩
    have hm1 : 1 ≤ m := by omega
    have hm2 : m ≤ 16 := by omega
    have HM : Kept (1 ≤ m ∧ m ≤ 16) := ⟨hm1, hm2⟩
    have und := und_cd
    have stood := stood_cd
    have gua := guard_cd
    have MU : Kept (∀ w2, Below W.heap.size W w2 → Calls Try.prog 18 #[.slice so S.length cap] w2 fun e w' => Cpy w2 (unL S) e w') := fun w2 hb => unlike_any w2 so cap S (hS.bel hb) hlen
    obtain ⟨L, hL⟩ : ∃ L, unL S = L := ⟨_, rfl⟩
    have HK : Kept (L.Pairwise (fun a b => a.1 ≠ b.1)) := by rw [← hL]; exact unL_keys S
    have HLN : Kept (L.length ≤ 5864062014634) := by have := unL_len S; rw [hL] at this; exact Nat.le_trans this hlen
    rw [hL] at MU
    generalize S.length = nS at *
    clear hout hm1 hm2 hS hlen hL
    go_enter Try.func5, Try.ntmps5
    go_wp2_with fail
    refine MW.out.mono ?_
    rintro _ w1 ⟨rfl, hb1⟩
    have B1 := keep hb1
    have MN := keep (new_ok w1 m HM.out.1 HM.out.2)
    clear hb1 MW
    go_wp2_with fail
    refine MN.out.mono ?_
    rintro _ w2 ⟨rfl, hp2⟩
    obtain ⟨b, hb⟩ : ∃ b, w1.heap.size = b := ⟨_, rfl⟩
    rw [hb] at hp2 ⊢
    have P2 := keep (hp2.from B1.out)
    clear MN hp2 hb B1
    have MU2 := keep (MU.out w2 P2.out.bel)
    clear MU
    go_wp2_with fail
    refine MU2.out.mono ?_
    intro e w3 hc
    obtain ⟨u, Y, rfl, p3, rd3⟩ := P2.out.copy hc
    obtain ⟨ao, n, cp, hu, hn, hao⟩ := (p3.rides rd3).shape
    subst hu
    rw [List.append_nil] at p3 rd3
    have P3 : Kept (PX W Y w3 b (.slice none 0 0) m (ofL m (L.take 0))) := p3
    have R3 := keep rd3
    have HN := keep hn
    have HAO := keep hao
    clear hc p3 rd3 hn hao MU2 P2
    have HI : Kept (∀ i, i ≤ n → Good (ofL m (L.take i)) ∧ (ofL m (L.take i)).length ≤ m) := fun i hi => by
      obtain ⟨D, hD⟩ := soon_all (m := m) HK.out i (by have := HN.out; omega)
      exact ⟨hD.good, by rw [hD.len]; exact Nat.min_le_left _ _⟩
    go_wp2_with fail
    go_loopg [49] n (fun kx s wz => ∃ i : Nat, s = .int .i64 i ∧ i ≤ n ∧ n - i ≤ kx ∧ ∃ v, Kept (PX W Y wz b v m (ofL m (L.take i))))
    case atStart => exact ⟨0, rfl, Nat.zero_le _, by omega, _, P3⟩
    case round =>
      obtain ⟨i, rfl, hin, hgi, v, KP⟩ := hrel
      clear P3
      by_cases hil : i < n
      · obtain ⟨x, hx⟩ : ∃ x, L[i]? = some x := ⟨_, List.getElem?_eq_getElem (by have := HN.out; omega)⟩
        obtain ⟨g, hg⟩ := HAO.out (by omega)
        subst hg
        obtain ⟨oJ, hoJ⟩ : ∃ o, o = i * 2 := ⟨_, rfl⟩
        obtain ⟨e0, e1⟩ := (KP.out.rides R3.out).two HN.out hx
        rw [← hoJ] at e0 e1
        have hoJ' : i * 2 = oJ := hoJ.symm
        have j0 : (0 : Int) ≤ (i : Int) := by omega
        have j1 : (i : Int) < (n : Int) := by omega
        have hwi : IntKind.i64.wrap ((i : Int) + 1) = (i : Int) + 1 := by have := HN.out; have := HLN.out; rw [IntKind.wrap_i64]; omega
        obtain ⟨D, hD⟩ : ∃ D, wr.heap.size = D := ⟨_, rfl⟩
        obtain ⟨W7, hW7⟩ : ∃ W7, wr.alloc (.cells #[.string x.1, .int .u64 x.2] 32) = W7 := ⟨_, rfl⟩
        have hb7 : Below wr.heap.size wr W7 := by rw [← hW7]; exact (Below.refl _ wr).alloc (Nat.le_refl _) _
        have gD : W7.heap[D]? = some (.cells #[.string x.1, .int .u64 x.2] 32 (0, 0)) := by rw [← hW7, ← hD]; exact heap_alloc_new _ _
        obtain ⟨f0, f1, _⟩ := cells_two gD
        have P7 := keep (KP.out.below hb7)
        have MO := keep (offer_any W7 b m v _ x P7.out.pl (HI.out i hin).1 (HI.out i hin).2 HM.out.2)
        rw [← of_take hx] at MO
        obtain ⟨x1, x2⟩ := x
        unfold agE at MO
        dsimp only at *
        clear hx hoJ hb7 gD KP
        go_wp2_with fail
        refine MO.out.mono ?_
        intro e w8 hd
        obtain ⟨rfl, v8, p8⟩ := P7.out.did hd
        have P8 := keep p8
        clear hd p8 MO
        go_wp2
        go_roundg (n - (i + 1))
        case measure => omega
        case rel => exact ⟨i + 1, by simp, by omega, Nat.le_refl _, v8, P8.out⟩
      · obtain rfl : i = n := by omega
        obtain ⟨R, hR⟩ : ∃ R, ofL m (L.take i) = R := ⟨_, rfl⟩
        obtain ⟨Dd, hsoon⟩ := soon_all (m := m) HK.out i (by have := HN.out; omega)
        rw [hR] at KP hsoon
        rw [← HN.out, List.take_length] at hsoon
        have HSN := keep hsoon
        have MC := keep (cands_any wr b m v R KP.out.pl (by have := hsoon.len; have := HM.out; omega))
        clear hR hsoon HI
        obtain ⟨wq, hwq⟩ : ∃ x, x = wr := ⟨_, rfl⟩
        subst hwq
        go_wp2_with fail
        refine MC.out.mono ?_
        intro e w5 hc
        obtain ⟨u5, Y5, rfl, p5, rd5⟩ := KP.out.copy hc
        obtain ⟨bo, r, rc, hu5, hr5, hbo⟩ := (p5.rides rd5).shape
        subst hu5
        have P5 := keep p5
        have R5 := keep rd5
        have HR := keep hr5
        have HBO := keep hbo
        have hrmin : r = min m i := by rw [← hr5, HSN.out.len, HN.out]
        have HRM : Kept (r ≤ m ∧ r ≤ i) := by rw [hrmin]; exact ⟨Nat.min_le_left _ _, Nat.min_le_right _ _⟩
        clear hc p5 rd5 hr5 hbo MC KP
        have HRMI : Kept ((r : Int) = min (m : Int) (i : Int)) := by show _ = _; rw [hrmin]; omega
        clear hrmin
        go_upto_region 13 with fail
        go_cut [65] from 59 to 65 (fun c wx => c = .bool false ∧ wx = w5)
        case first =>
          by_cases him : i < m
          · have hr1 : (r : Int) = (i : Int) := by have := HRMI.out; omega
            have hr2 : r = i := by omega
            subst hr2
            have him' : (r : Int) < (m : Int) := by omega
            go_wp2
            go_meet
            case rel => exact ⟨rfl, rfl⟩
          · have hr2 : r = m := by have := HRMI.out; omega
            subst hr2
            have him' : ¬ (i : Int) < (r : Int) := by omega
            go_wp2
            go_meet
            case rel => exact ⟨rfl, rfl⟩
        case rest =>
          obtain ⟨rfl, hwc⟩ := hcut
          obtain rfl := hwc.symm
          have RL : Kept (∀ wz, Below w5.heap.size w5 wz → Row wz (.slice ao i cp) L) := fun wz hb => ((P5.out.below hb).less (fun p hp => by simp [hp])).rides R3.out
          have RR : Kept (∀ wz, Below w5.heap.size w5 wz → Row wz (.slice bo r rc) R) := fun wz hb => (P5.out.below hb).rides R5.out
          go_wp2_with fail
          go_loopg [68] r (fun kx s wz => ∃ t : Nat, s = .int .i64 t ∧ t ≤ r ∧ r - t ≤ kx ∧ Kept (Below w5.heap.size w5 wz))
          case atStart => exact ⟨0, rfl, Nat.zero_le _, by omega, Below.refl _ _⟩
          case round =>
            obtain ⟨wr', hwr'⟩ : ∃ x, x = wr := ⟨_, rfl⟩
            subst hwr'
            obtain ⟨t, rfl, htr, hgt, BT⟩ := hrel
            by_cases htl : t < r
            · obtain ⟨x, hx⟩ : ∃ x, R[t]? = some x := ⟨_, List.getElem?_eq_getElem (by have := HR.out; omega)⟩
              obtain ⟨g, hg⟩ := HBO.out (by omega)
              subst hg
              obtain ⟨oT, hoT⟩ : ∃ o, o = t * 2 := ⟨_, rfl⟩
              obtain ⟨e0, e1⟩ := (RR.out wr' BT.out).two HR.out hx
              rw [← hoT] at e0 e1
              have hoT' : t * 2 = oT := hoT.symm
              have t0 : (0 : Int) ≤ (t : Int) := by omega
              have t1 : (t : Int) < (r : Int) := by omega
              have hwt : IntKind.i64.wrap ((t : Int) + 1) = (t : Int) + 1 := by have := HRM.out; have := HM.out; rw [IntKind.wrap_i64]; omega
              obtain ⟨x1, x2⟩ := x
              dsimp only at e0 e1
              obtain ⟨D1, hD1⟩ : ∃ D, wr'.heap.size = D := ⟨_, rfl⟩
              obtain ⟨W6, hW6⟩ : ∃ W6, wr'.alloc (.cells #[.string x1, .int .u64 x2] 32) = W6 := ⟨_, rfl⟩
              have hb6 : Below wr'.heap.size wr' W6 := by rw [← hW6]; exact (Below.refl _ wr').alloc (Nat.le_refl _) _
              have gD1 : W6.heap[D1]? = some (.cells #[.string x1, .int .u64 x2] 32 (0, 0)) := by rw [← hW6, ← hD1]; exact heap_alloc_new _ _
              have B6 := keep (Below.up BT.out hb6)
              have G1 : Kept (W6.heap[D1]? = some (.cells #[.string x1, .int .u64 x2] 32 (0, 0)) ∧ D1 < W6.heap.size) := ⟨gD1, (Array.getElem?_eq_some_iff.1 gD1).1⟩
              have HX := keep hx
              clear hx hoT hb6 gD1
              go_wp2_with fail
              go_loopg [12, 13, 75] i (fun kx c f s wz => ∃ j : Nat, s = .int .i64 j ∧ j ≤ i ∧ i - j ≤ kx ∧ c = .int .i64 ((cnt (x1, x2) L j : Nat) : Int) ∧ f = .bool (fnd (x1, x2) L j) ∧ Kept (Below W6.heap.size W6 wz))
              case atStart => exact ⟨0, rfl, Nat.zero_le _, by omega, rfl, rfl, Below.refl _ _⟩
              case round =>
                obtain ⟨j, rfl, hji, hgj, rfl, rfl, BW⟩ := hrel
                by_cases hjl : j < i
                · obtain ⟨d, hd⟩ : ∃ d, L[j]? = some d := ⟨_, List.getElem?_eq_getElem (by have := HN.out; omega)⟩
                  obtain ⟨gl, hgl⟩ := HAO.out (by omega)
                  subst hgl
                  obtain ⟨oJ, hoJ⟩ : ∃ o, o = j * 2 := ⟨_, rfl⟩
                  obtain ⟨e0, e1⟩ := (RL.out wr (Below.up B6.out BW.out)).two HN.out hd
                  rw [← hoJ] at e0 e1
                  have hoJ' : j * 2 = oJ := hoJ.symm
                  have j0 : (0 : Int) ≤ (j : Int) := by omega
                  have j1 : (j : Int) < (i : Int) := by omega
                  have hwj : IntKind.i64.wrap ((j : Int) + 1) = (j : Int) + 1 := by have := HN.out; have := HLN.out; rw [IntKind.wrap_i64]; omega
                  obtain ⟨D2, hD2⟩ : ∃ D, wr.heap.size = D := ⟨_, rfl⟩
                  obtain ⟨W7, hW7⟩ : ∃ W7, wr.alloc (.cells #[.string d.1, .int .u64 d.2] 32) = W7 := ⟨_, rfl⟩
                  have hb7 : Below wr.heap.size wr W7 := by rw [← hW7]; exact (Below.refl _ wr).alloc (Nat.le_refl _) _
                  have gD2 : W7.heap[D2]? = some (.cells #[.string d.1, .int .u64 d.2] 32 (0, 0)) := by rw [← hW7, ← hD2]; exact heap_alloc_new _ _
                  have B7 := keep (Below.up BW.out hb7)
                  have G2 : Kept (W7.heap[D2]? = some (.cells #[.string d.1, .int .u64 d.2] 32 (0, 0)) ∧ D2 < W7.heap.size) := ⟨gD2, (Array.getElem?_eq_some_iff.1 gD2).1⟩
                  obtain ⟨f0, f1, _⟩ := cells_two gD2
                  have gx7 := (B7.out.block D1 G1.out.2).trans G1.out.1
                  obtain ⟨h0, h1, _⟩ := cells_two gx7
                  have G7 : Kept (W7.heap[D1]? = some (.cells #[.string x1, .int .u64 x2] 32 (0, 0)) ∧ D1 < W7.heap.size) := ⟨gx7, (Array.getElem?_eq_some_iff.1 gx7).1⟩
                  have mS := sooner_any d (x1, x2) W7
                  have er := eq_run d (x1, x2)
                  have fs := fnd_succ (c := (x1, x2)) hd
                  have cs := cnt_succ (x := (x1, x2)) hd
                  have hcl := cnt_le (x1, x2) L j
                  obtain ⟨cj, hcj⟩ : ∃ c, cnt (x1, x2) L j = c := ⟨_, rfl⟩
                  rw [hcj] at cs hcl ⊢
                  have hwc : IntKind.i64.wrap ((cj : Int) + 1) = (cj : Int) + 1 := by have := HN.out; have := HLN.out; rw [IntKind.wrap_i64]; omega
                  obtain ⟨d1, d2⟩ := d
                  unfold agE at mS
                  dsimp only at *
                  generalize eqE (d1, d2) (x1, x2) = q at er fs
                  have MS := keep mS
                  have CS := keep cs
                  clear hd hoJ hb7 gD2 mS gx7 cs hcl hcj
                  cases hsn : snr (d1, d2) (x1, x2) <;> rw [hsn] at MS CS <;> cases hf : fnd (x1, x2) L j
                  · rw [hf] at fs
                    clear hf hsn
                    go_wp2_with fail
                    refine MS.out.mono ?_
                    rintro _ w8 ⟨rfl, hb8⟩
                    obtain ⟨k0, k1, _⟩ := cells_two ((hb8.block D2 G2.out.2).trans G2.out.1)
                    obtain ⟨k2, k3, _⟩ := cells_two ((hb8.block D1 G7.out.2).trans G7.out.1)
                    have B8 := keep (Below.up B7.out hb8)
                    have FS := keep fs
                    clear hb8 MS fs h0 h1 f0 f1
                    go_wp2
                    go_roundg (i - (j + 1))
                    case measure => omega
                    case rel => exact ⟨j + 1, by simp, by omega, Nat.le_refl _, by rw [CS.out]; simp, by simp [FS.out], B8.out⟩
                  · rw [hf] at fs
                    clear hf hsn
                    go_wp2_with fail
                    refine MS.out.mono ?_
                    rintro _ w8 ⟨rfl, hb8⟩
                    obtain ⟨k0, k1, _⟩ := cells_two ((hb8.block D2 G2.out.2).trans G2.out.1)
                    obtain ⟨k2, k3, _⟩ := cells_two ((hb8.block D1 G7.out.2).trans G7.out.1)
                    have B8 := keep (Below.up B7.out hb8)
                    have FS := keep fs
                    clear hb8 MS fs h0 h1 f0 f1
                    go_wp2
                    go_roundg (i - (j + 1))
                    case measure => omega
                    case rel => exact ⟨j + 1, by simp, by omega, Nat.le_refl _, by rw [CS.out]; simp, by simp [FS.out], B8.out⟩
                  · rw [hf] at fs
                    clear hf hsn
                    go_wp2_with fail
                    refine MS.out.mono ?_
                    rintro _ w8 ⟨rfl, hb8⟩
                    obtain ⟨k0, k1, _⟩ := cells_two ((hb8.block D2 G2.out.2).trans G2.out.1)
                    obtain ⟨k2, k3, _⟩ := cells_two ((hb8.block D1 G7.out.2).trans G7.out.1)
                    have B8 := keep (Below.up B7.out hb8)
                    have FS := keep fs
                    clear hb8 MS fs h0 h1 f0 f1
                    go_wp2
                    go_roundg (i - (j + 1))
                    case measure => omega
                    case rel => exact ⟨j + 1, by simp, by omega, Nat.le_refl _, by rw [CS.out]; simp, by simp [FS.out], B8.out⟩
                  · rw [hf] at fs
                    clear hf hsn
                    go_wp2_with fail
                    refine MS.out.mono ?_
                    rintro _ w8 ⟨rfl, hb8⟩
                    obtain ⟨k0, k1, _⟩ := cells_two ((hb8.block D2 G2.out.2).trans G2.out.1)
                    obtain ⟨k2, k3, _⟩ := cells_two ((hb8.block D1 G7.out.2).trans G7.out.1)
                    have B8 := keep (Below.up B7.out hb8)
                    have FS := keep fs
                    clear hb8 MS fs h0 h1 f0 f1
                    go_wp2
                    go_roundg (i - (j + 1))
                    case measure => omega
                    case rel => exact ⟨j + 1, by simp, by omega, Nat.le_refl _, by rw [CS.out]; simp, by simp [FS.out], B8.out⟩
                · obtain rfl : j = i := by omega
                  obtain ⟨c1, c2⟩ := HSN.out.count HX.out
                  rw [HN.out] at c1 c2
                  rw [c1, c2]
                  have BF := keep (Below.up B6.out BW.out)
                  clear c1 c2
                  go_wp2
                  go_roundg (r - (t + 1))
                  case measure => omega
                  case rel => exact ⟨t + 1, by simp, by omega, Nat.le_refl _, BF.out⟩
            · obtain rfl : t = r := by omega
              have P6 : Kept (PX W (Y5 ++ Y) wr' b v m (R.drop 0)) := P5.out.below BT.out
              go_wp2_with fail
              go_loopg [101] t (fun kx s wz => ∃ k : Nat, s = .int .i64 k ∧ k ≤ t ∧ t - k ≤ kx ∧ ∃ v, Kept (PX W (Y5 ++ Y) wz b v m (R.drop k)))
              case atStart => exact ⟨0, rfl, Nat.zero_le _, by omega, _, P6⟩
              case round =>
                obtain ⟨k, rfl, hkt, hgk, vk, KP⟩ := hrel
                by_cases hkl : k < t
                · obtain ⟨x, hx⟩ : ∃ x, R[k]? = some x := ⟨_, List.getElem?_eq_getElem (by have := HR.out; omega)⟩
                  obtain ⟨g, hg⟩ := HBO.out (by omega)
                  subst hg
                  obtain ⟨oT, hoT⟩ : ∃ o, o = k * 2 := ⟨_, rfl⟩
                  obtain ⟨e0, e1⟩ := (KP.out.rides R5.out).two HR.out hx
                  rw [← hoT] at e0 e1
                  have hoT' : k * 2 = oT := hoT.symm
                  have t0 : (0 : Int) ≤ (k : Int) := by omega
                  have t1 : (k : Int) < (t : Int) := by omega
                  have hwt : IntKind.i64.wrap ((k : Int) + 1) = (k : Int) + 1 := by have := HRM.out; have := HM.out; rw [IntKind.wrap_i64]; omega
                  obtain ⟨D1, hD1⟩ : ∃ D, wr.heap.size = D := ⟨_, rfl⟩
                  obtain ⟨W6, hW6⟩ : ∃ W6, wr.alloc (.cells #[.string x.1, .int .u64 x.2] 32) = W6 := ⟨_, rfl⟩
                  have P7 : Kept (PX W ((D1, .cells #[.string x.1, .int .u64 x.2] 32 (0, 0)) :: (Y5 ++ Y)) W6 b vk m (R.drop k)) := by rw [← hW6, ← hD1]; exact KP.out.more _
                  have hdr : R.drop k = x :: R.drop (k + 1) := by
                    obtain ⟨hk', rfl⟩ := List.getElem?_eq_some_iff.1 hx
                    exact List.drop_eq_getElem_cons hk'
                  have MT := keep (take_any W6 b m vk (R.drop k) P7.out.pl (by have := HR.out; have := HRM.out; have := HM.out; rw [List.length_drop]; omega))
                  rw [hdr] at MT
                  have er := ne_run x x
                  rw [eqE_self] at er
                  obtain ⟨x1, x2⟩ := x
                  unfold fstV at MT
                  dsimp only [List.tail_cons] at *
                  clear hx hoT KP hdr
                  go_wp2_with fail
                  refine MT.out.mono ?_
                  intro e w8 hd
                  obtain ⟨rfl, v8, p8⟩ := P7.out.did hd
                  obtain ⟨D2, hD2⟩ : ∃ D, w8.heap.size = D := ⟨_, rfl⟩
                  obtain ⟨W9, hW9⟩ : ∃ W9, w8.alloc (.cells #[.string x1, .int .u64 x2] 32) = W9 := ⟨_, rfl⟩
                  have p9 : PX W ((D2, .cells #[.string x1, .int .u64 x2] 32 (0, 0)) :: (D1, .cells #[.string x1, .int .u64 x2] 32 (0, 0)) :: (Y5 ++ Y)) W9 b v8 m (R.drop (k + 1)) := by rw [← hW9, ← hD2]; exact p8.more _
                  obtain ⟨f0, f1, _⟩ := cells_two (p9.side _ List.mem_cons_self).1
                  obtain ⟨f2, f3, _⟩ := cells_two (p9.side _ (List.mem_cons_of_mem _ List.mem_cons_self)).1
                  have P9 : Kept (PX W (Y5 ++ Y) W9 b v8 m (R.drop (k + 1))) := p9.less (fun p hp => by simp only [List.mem_cons]; exact .inr (.inr hp))
                  clear hd p8 p9 MT
                  dsimp only at f0 f1 f2 f3
                  go_wp2
                  go_roundg (t - (k + 1))
                  case measure => omega
                  case rel => exact ⟨k + 1, by simp, by omega, Nat.le_refl _, v8, P9.out⟩
                · obtain rfl : k = t := by omega
                  have hd0 : R.drop k = [] := List.drop_of_length_le (by have := HR.out; omega)
                  rw [hd0] at KP
                  have MT := keep (take_any wr b m vk [] KP.out.pl (by simp))
                  unfold fstV at MT
                  dsimp only [List.tail_nil] at MT
                  clear hd0
                  go_wp2_with fail
                  refine MT.out.mono ?_
                  intro e w8 hd
                  obtain ⟨rfl, v8, p8⟩ := KP.out.did hd
                  obtain ⟨D2, hD2⟩ : ∃ D, w8.heap.size = D := ⟨_, rfl⟩
                  obtain ⟨W3, hW3⟩ : ∃ W3, w8.alloc (.cells #[.string { data := #[] }, .int .u64 0] 32) = W3 := ⟨_, rfl⟩
                  have hb3 : Below w8.heap.size w8 W3 := by rw [← hW3]; exact (Below.refl _ w8).alloc (Nat.le_refl _) _
                  have g3 : W3.heap[D2]? = some (.cells #[.string { data := #[] }, .int .u64 0] 32 (0, 0)) := by rw [← hW3, ← hD2]; exact heap_alloc_new _ _
                  obtain ⟨c0, c1, c2⟩ := cells_two g3
                  obtain ⟨W4, hW4⟩ : ∃ W4, (W3.setCell ⟨D2, 0, none⟩ (.string { data := #[] })).setCell ⟨D2, 1, none⟩ (.int .u64 0) = W4 := ⟨_, rfl⟩
                  have hb4 : Below w8.heap.size w8 W4 := by rw [← hW4]; exact (hb3.setCell (by rw [hD2]; exact Nat.le_refl _) _).setCell (by rw [hD2]; exact Nat.le_refl _) _
                  have P9 := keep (p8.below hb4)
                  have MC2 := keep (cands_any W4 b m v8 [] P9.out.pl (by simp))
                  clear hd p8 MT hb3 hb4 g3
                  go_wp2_with fail
                  refine MC2.out.mono ?_
                  rintro e w10 ⟨u10, rfl, hr10, _, hb10⟩
                  obtain ⟨lo, ln, lc, hu10, hl10, _⟩ := hr10.shape
                  subst hu10
                  obtain rfl : ln = 0 := by simpa using hl10.symm
                  have BF := keep (Below.up P9.out.bel hb10)
                  clear hr10 hb10 MC2 hl10 c0 c1 c2
                  go_wp2
                  go_ret
                  exact ⟨by simp, BF.out⟩
end Go.Proofs.Ytgniiojeeobffaa
