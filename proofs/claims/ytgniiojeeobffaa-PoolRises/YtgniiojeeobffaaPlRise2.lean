/-
  The statement's own walk: behind every step of every script a pool has never too many, rising, each key once.
-/
import Derived.Test.YtgniiojeeobffaaPlRise0
import Derived.Deep.CutRange
import Derived.Deep.CutBlock
namespace Go.Proofs.Ytgniiojeeobffaa
open Go.RowKit Go.Shelf
set_option linter.unusedVariables false
set_option linter.unusedSimpArgs false
/-- how it stands behind the switch -/
def Sw (W : World) (X : List (Nat × Obj)) (b m : Nat) (act : Int) (c : Ent) (l : List Ent) (kv : Value) (w : World) : Prop :=
  ∃ (kp : Bool) (v : Value) (l' : List Ent), kv = .bool kp ∧ PX W X w b v m l' ∧ Stpd m act c l kp l'
set_option maxRecDepth 100000 in
set_option maxHeartbeats 8000000 in
theorem rises_walk (W : World) (most : Int) (so : Option Addr) (cap : Nat) (S : List Stp) (hS : Steps W so S) (hlen : S.length ≤ maxLen) :
    Calls Try.prog 6 #[.int .i64 most, .slice so S.length cap] W fun e w' => e = .returned (.bool true) ∧ Below W.heap.size W w' := by
  obtain ⟨nS, hnS⟩ : ∃ nS, S.length = nS := ⟨_, rfl⟩
  have MW := keep (wakes_any W)
  have HS := keep hS
  have HLEN := keep hlen
  have HNS := keep hnS
  rw [hnS]
  clear hS hlen hnS
  by_cases hout : most < 1 ∨ 16 < most
  · go_enter Try.func6, Try.ntmps6
    go_wp2_with fail
    refine MW.out.mono ?_
    rintro _ w1 ⟨rfl, hb1⟩
    have B1 := keep hb1
    have MN := keep (new_no w1 most hout)
    clear hb1 MW hout
    go_wp2_with fail
    refine MN.out.mono ?_
    rintro _ w2 ⟨rfl, hw⟩
    obtain rfl := hw.symm
    clear MN
    go_wp2
    go_ret
    exact ⟨by simp, B1.out⟩
  · obtain ⟨m, rfl⟩ : ∃ m : Nat, most = (m : Int) := ⟨most.toNat, by omega⟩
    have hm1 : 1 ≤ m := by omega
    have hm2 : m ≤ 16 := by omega
    have HM : Kept (1 ≤ m ∧ m ≤ 16) := ⟨hm1, hm2⟩
    clear hout hm1 hm2
    have und := und_cd
    have stood := stood_cd
    have gua := guard_cd
    go_enter Try.func6, Try.ntmps6
    go_wp2_with fail
    refine MW.out.mono ?_
    rintro _ w1 ⟨rfl, hb1⟩
    have B1 := keep hb1
    have MN := keep (new_ok w1 m HM.out.1 HM.out.2)
    clear hb1 MW
    go_wp2_with fail
    refine MN.out.mono ?_
    rintro _ w2 ⟨rfl, hp2⟩
    obtain ⟨b, hb⟩ : ∃ b, w1.heap.size = b := ⟨_, rfl⟩
    rw [hb] at hp2 ⊢
    have P2 := keep (hp2.from B1.out)
    clear MN hp2 hb B1
    go_wp2
    go_loopg [29] nS (fun kx s wr => ∃ i : Nat, s = .int .i64 i ∧ i ≤ nS ∧ nS - i ≤ kx ∧ ∃ v l, Kept (PX W [] wr b v m l) ∧ Kept (Good l ∧ l.length ≤ m))
    case atStart => exact ⟨0, rfl, Nat.zero_le _, by omega, _, [], P2, ⟨good0, by simp⟩⟩
    case round =>
      obtain ⟨k, rfl, hk, hgk, v, l, KP, KG⟩ := hrel
      clear P2
      by_cases hlt : k < nS
      · have hltz : (k : Int) < (nS : Int) := by omega
        have hk0 : (0 : Int) ≤ (k : Int) := by omega
        have hwk : IntKind.i64.wrap ((k : Int) + 1) = (k : Int) + 1 := by have := HLEN.out; have := HNS.out; unfold maxLen at *; rw [IntKind.wrap_i64]; omega
        obtain ⟨a, rfl, ha, hat⟩ := HS.out k (by rw [HNS.out]; exact hlt)
        obtain ⟨o, ho⟩ : ∃ o, S[k]'(by rw [HNS.out]; exact hlt) = o := ⟨_, rfl⟩
        rw [ho] at hat
        have hat' := hat.bel KP.out.bel (by rw [add_block]; exact ha)
        obtain ⟨who, act, c1, c2⟩ := o
        obtain ⟨X, hX⟩ : ∃ X, wr.heap.size = X := ⟨_, rfl⟩
        obtain ⟨W1, hW1⟩ : ∃ x, wr.alloc (.cells #[.int .i64 who, .int .i64 act, .string c1, .int .u64 c2] 34) = x := ⟨_, rfl⟩
        have P1 : Kept (PX W [(X, .cells #[.int .i64 who, .int .i64 act, .string c1, .int .u64 c2] 34 (0, 0))] W1 b v m l) := by
          rw [← hW1, ← hX]; exact KP.out.more _
        obtain ⟨y0, y1, y2, y3⟩ := hat'
        dsimp only at y0 y1 y2 y3
        have MC := keep (cands_any W1 b m v l P1.out.pl (by have := KG.out.2; have := HM.out; omega))
        clear ho hat ha KP hlt
        go_wp2_with fail
        refine MC.out.mono ?_
        intro e w3 hc
        obtain ⟨u, Y, rfl, p3, rd3⟩ := P1.out.copy hc
        have P3 := keep p3
        have R3 := keep rd3
        clear hc p3 rd3 P1 MC hW1 y0 y1 y2 y3
        obtain ⟨XX, hXX⟩ : ∃ XX, Y ++ [(X, Obj.cells #[.int .i64 who, .int .i64 act, .string c1, .int .u64 c2] 34 (0, 0))] = XX := ⟨_, rfl⟩
        have HXX : Kept ((X, Obj.cells #[.int .i64 who, .int .i64 act, .string c1, .int .u64 c2] 34 (0, 0)) ∈ XX) := by rw [← hXX]; show _ ∈ _; simp
        rw [hXX] at P3 R3
        clear hXX
        have SX : Kept (∀ w v' l', PX W XX w b v' m l' → w.cell? ⟨X, 0, none⟩ = some (.int .i64 who) ∧ w.cell? ⟨X, 1, none⟩ = some (.int .i64 act) ∧ w.cell? ⟨X, 2, none⟩ = some (.string c1) ∧ w.cell? ⟨X, 3, none⟩ = some (.int .u64 c2)) := fun w v' l' hp => by
          have h := (hp.side _ HXX.out).1
          dsimp only at h
          refine ⟨?_, ?_, ?_, ?_⟩ <;> (rw [cell_of_row _ _ _ _ _ _ h]; rfl)
        obtain ⟨x0, x1, x2, x3⟩ := SX.out w3 _ _ P3.out
        go_upto_block 2 with fail
        go_cut [10, 29] from 29 to 135 (fun kv i wx => i = .int .i64 k ∧ Kept (Sw W XX b m act (c1, c2) l kv wx))
        case first =>
          clear x0
          by_cases a0 : act = 0
          · subst a0
            have MO := keep (offer_any w3 b m v l (c1, c2) P3.out.pl KG.out.1 KG.out.2 HM.out.2)
            unfold agE at MO
            dsimp only at MO
            go_wp2_with fail
            refine MO.out.mono ?_
            intro e w4 hd
            obtain ⟨rfl, v4, p4⟩ := P3.out.did hd
            have HSW : Kept (Sw W XX b m 0 (c1, c2) l (.bool (offB m (c1, c2) l)) w4) := ⟨_, v4, _, rfl, p4, stp_off KG.out.1 KG.out.2⟩
            generalize offB m (c1, c2) l = kp at *
            clear hd p4 MO
            go_wp2
            go_meet
            case rel => exact ⟨rfl, HSW.out⟩
          · have a0b : (act == 0) = false := beq_eq_false_iff_ne.2 a0
            by_cases a1 : act = 1
            · subst a1
              have MO := keep (drop_any w3 b m v l c1 P3.out.pl KG.out.1 (by have := KG.out.2; have := HM.out; omega))
              go_wp2_with fail
              refine MO.out.mono ?_
              intro e w4 hd
              obtain ⟨rfl, v4, p4⟩ := P3.out.did hd
              have HSW : Kept (Sw W XX b m 1 (c1, c2) l (.bool false) w4) := ⟨_, v4, _, rfl, p4, stp_drop KG.out.1 KG.out.2⟩
              clear hd p4 MO
              go_wp2
              go_meet
              case rel => exact ⟨rfl, HSW.out⟩
            · have a1b : (act == 1) = false := beq_eq_false_iff_ne.2 a1
              by_cases a2 : act = 2
              · subst a2
                have MO := keep (take_any w3 b m v l P3.out.pl (by have := KG.out.2; have := HM.out; omega))
                go_wp2_with fail
                refine MO.out.mono ?_
                intro e w4 hd
                obtain ⟨rfl, v4, p4⟩ := P3.out.did hd
                have HSW : Kept (Sw W XX b m 2 (c1, c2) l (.bool false) w4) := ⟨_, v4, _, rfl, p4, stp_take KG.out.1 KG.out.2⟩
                clear hd p4 MO
                go_wp2
                go_meet
                case rel => exact ⟨rfl, HSW.out⟩
              · have a2b : (act == 2) = false := beq_eq_false_iff_ne.2 a2
                by_cases a4 : act = 4
                · subst a4
                  have MO := keep (clear_any w3 b m v l P3.out.pl)
                  go_wp2_with fail
                  refine MO.out.mono ?_
                  intro e w4 hd
                  obtain ⟨rfl, v4, p4⟩ := P3.out.did hd
                  have HSW : Kept (Sw W XX b m 4 (c1, c2) l (.bool false) w4) := ⟨_, v4, _, rfl, p4, stp_clear⟩
                  clear hd p4 MO
                  go_wp2
                  go_meet
                  case rel => exact ⟨rfl, HSW.out⟩
                · have a4b : (act == 4) = false := beq_eq_false_iff_ne.2 a4
                  have HSW : Kept (Sw W XX b m act (c1, c2) l (.bool false) w3) := ⟨_, v, _, rfl, P3.out, stp_none KG.out.1 KG.out.2 a0 a1⟩
                  go_wp2
                  go_meet
                  case rel => exact ⟨rfl, HSW.out⟩
        case rest =>
          obtain ⟨rfl, hsw⟩ := hcut
          obtain ⟨kp, v4, l4, rfl, p4, st⟩ := hsw.out
          have ST := keep st
          have P4 := keep p4
          obtain ⟨uo, nu, uc, hu, hnu⟩ : ∃ ao n c, u = .slice ao n c ∧ n = l.length := by
            rcases (P3.out.rides R3.out).form with ⟨rfl, rfl⟩ | ⟨g, c, rfl, _⟩ <;> exact ⟨_, _, _, rfl, rfl⟩
          subst hu
          have HNU := keep hnu
          have MC := keep (cands_any wc b m v4 l4 p4.pl (by have := st.few; have := HM.out; omega))
          clear hsw p4 st hnu x0 x1 x2 x3 HS
          go_wp2_with fail
          refine MC.out.mono ?_
          intro e w5 hc
          obtain ⟨u5, Y5, rfl, p5, rd5⟩ := P4.out.copy hc
          obtain ⟨ao, n, cp, hu5, hn5, hg5⟩ : ∃ ao n c, u5 = .slice ao n c ∧ l4.length = n ∧ (0 < n → ∃ g, ao = some ⟨g, 0, none⟩) := by
            rcases (p5.rides rd5).form with ⟨rfl, rfl⟩ | ⟨g, c, rfl, _⟩
            · exact ⟨_, _, _, rfl, rfl, fun h => by omega⟩
            · exact ⟨_, _, _, rfl, rfl, fun _ => ⟨g, rfl⟩⟩
          subst hu5
          have P5 := keep p5
          have R5 := keep rd5
          have HN4 := keep hn5
          have HA5 := keep hg5
          have R5all : Kept (∀ wz, Below w5.heap.size w5 wz → Row wz (.slice ao n cp) l4) := fun wz hb => (P5.out.below hb).rides R5.out
          have RUall : Kept (∀ wz, Below w5.heap.size w5 wz → Row wz (.slice uo nu uc) l) := fun wz hb => ((P5.out.below hb).less (fun p hp => by simp [hp])).rides R3.out
          have hnm : ¬ (m : Int) < (n : Int) := by have := ST.out.few; omega
          have hnm' : ¬ m < n := by have := ST.out.few; omega
          have hnm2 : decide ((m : Int) < (n : Int)) = false := decide_eq_false hnm
          clear hc p5 rd5 hn5 hg5 MC P3
          go_wp2_with fail
          go_loopg [12, 66] n (fun kx f s wz => ∃ j : Nat, s = .int .i64 j ∧ j ≤ n ∧ n - j ≤ kx ∧ f = .bool (fnd (c1, c2) l4 j) ∧ Kept (Below w5.heap.size w5 wz))
          case atStart => exact ⟨0, rfl, Nat.zero_le _, by omega, rfl, Below.refl _ _⟩
          case round =>
            obtain ⟨wr', hwr'⟩ : ∃ x, x = wr := ⟨_, rfl⟩
            subst hwr'
            obtain ⟨j, rfl, hjn, hgj, rfl, BW⟩ := hrel
            by_cases hjl : j < n
            · obtain ⟨x, hx⟩ : ∃ x, l4[j]? = some x := ⟨_, List.getElem?_eq_getElem (by have := HN4.out; omega)⟩
              obtain ⟨g, hg⟩ := HA5.out (by omega)
              subst hg
              obtain ⟨oJ, hoJ⟩ : ∃ o, o = j * 2 := ⟨_, rfl⟩
              have R5w : Kept (∀ wz, Below w5.heap.size w5 wz → Row wz (.slice (some ⟨g, 0, none⟩) n cp) l4) := fun wz hb => (P5.out.below hb).rides R5.out
              have hrow : ∀ wz, Below w5.heap.size w5 wz → wz.ownsRow 0 32 2 (.slice (some ⟨g, 0, none⟩) n cp) n (enR l4) := fun wz hb => by have := R5w.out wz hb; unfold Row at this; rw [HN4.out] at this; exact this
              have R5w : Kept (∀ wz, Below w5.heap.size w5 wz → wz.ownsRow 0 32 2 (.slice (some ⟨g, 0, none⟩) n cp) n (enR l4)) := hrow
              have ce := (cel_of (R5w.out wr' BW.out)) j x hx
              rw [← hoJ] at ce
              obtain ⟨x1, x2⟩ := x
              obtain ⟨e0, e1⟩ := ce
              dsimp only at e0 e1
              have hoJ' : j * 2 = oJ := hoJ.symm
              have j0 : (0 : Int) ≤ (j : Int) := by omega
              have j1 : (j : Int) < (n : Int) := by omega
              obtain ⟨D, hD⟩ : ∃ D, wr'.heap.size = D := ⟨_, rfl⟩
              obtain ⟨W7, hW7⟩ : ∃ W7, wr'.alloc (.cells #[.string x1, .int .u64 x2] 32) = W7 := ⟨_, rfl⟩
              have hb7 : Below wr'.heap.size wr' W7 := by rw [← hW7]; exact (Below.refl _ wr').alloc (Nat.le_refl _) _
              have gD : W7.heap[D]? = some (.cells #[.string x1, .int .u64 x2] 32 (0, 0)) := by rw [← hW7, ← hD]; exact heap_alloc_new _ _
              have GD : Kept (W7.heap[D]? = some (.cells #[.string x1, .int .u64 x2] 32 (0, 0)) ∧ D < W7.heap.size) := ⟨gD, (Array.getElem?_eq_some_iff.1 gD).1⟩
              have B7 := keep (Below.up BW.out hb7)
              have HX4 := keep hx
              clear hx hoJ hrow hb7 gD
              by_cases hj0 : j = 0
              · subst hj0
                obtain rfl : oJ = 0 := by omega
                simp only [Nat.zero_add] at e1
                have B8 : Kept (Below W7.heap.size W7 W7.drew) := (Below.refl _ W7).drew
                go_wp2_with fail
                try rw [hW7]
                refine wp_region_held_drew (S := fun _ => True) (by kernel_rfl) trivial (fun hHeld => ?_)
                refine wpAnyH_take (i := 0) (oi := { dst := some 71, op := _, type := _, pos := _, after := _, guard := _ }) (v := ?v1) rfl (by kernel_rfl) (by kernel_rfl) (by kernel_rfl) (fun _ _ _ h => h) (Or.inl ⟨by rfl, ?hy1⟩) (by assumption) ?rest1
                case hy1 => (intro w hSw; go_simp; try with_reducible rfl)
                try simp only [Act.put, List.setIfInBounds_toArray, List.set_cons_zero, List.set_cons_succ]
                refine wpAnyH_take (i := 1) (oi := { dst := some 72, op := _, type := _, pos := _, after := _, guard := _ }) (v := (.bool false)) rfl (by kernel_rfl) (by kernel_rfl) (by kernel_rfl) (fun _ _ _ h => h) (Or.inl ⟨by rfl, ?hy2⟩) (by assumption) ?rest2
                case hy2 => (intro w hSw; first | (go_simp; done) | (go_simp; simp [*]; done) | (simp [*]; go_simp; done))
                try simp only [Act.put, List.setIfInBounds_toArray, List.set_cons_zero, List.set_cons_succ]
                refine wpAnyH_take (i := 2) (oi := { dst := some 73, op := _, type := _, pos := _, after := _, guard := _ }) (v := (.bool false)) rfl (by kernel_rfl) (by kernel_rfl) (by kernel_rfl) (fun _ _ _ h => h) (Or.inl ⟨by rfl, ?hy3⟩) (by assumption) ?rest3
                case hy3 => (intro w hSw; first | (go_simp; done) | (go_simp; simp [*]; done) | (simp [*]; go_simp; done))
                try simp only [Act.put, List.setIfInBounds_toArray, List.set_cons_zero, List.set_cons_succ]
                refine wpAnyH_take (i := 3) (oi := { dst := some 74, op := _, type := _, pos := _, after := _, guard := _ }) (v := _) rfl (by kernel_rfl) (by kernel_rfl) (by kernel_rfl) (fun _ _ _ h => h) (Or.inr ⟨by rfl, rfl⟩) (by assumption) ?_
                try simp only [Act.put, List.setIfInBounds_toArray, List.set_cons_zero, List.set_cons_succ]
                refine wpAnyH_take (i := 4) (oi := { dst := some 75, op := _, type := _, pos := _, after := _, guard := _ }) (v := _) rfl (by kernel_rfl) (by kernel_rfl) (by kernel_rfl) (fun _ _ _ h => h) (Or.inr ⟨by rfl, rfl⟩) (by assumption) ?_
                try simp only [Act.put, List.setIfInBounds_toArray, List.set_cons_zero, List.set_cons_succ]
                refine wpAnyH_take (i := 5) (oi := { dst := some 76, op := _, type := _, pos := _, after := _, guard := _ }) (v := _) rfl (by kernel_rfl) (by kernel_rfl) (by kernel_rfl) (fun _ _ _ h => h) (Or.inr ⟨by rfl, rfl⟩) (by assumption) ?_
                try simp only [Act.put, List.setIfInBounds_toArray, List.set_cons_zero, List.set_cons_succ]
                refine wpAnyH_take (i := 6) (oi := { dst := some 77, op := _, type := _, pos := _, after := _, guard := _ }) (v := _) rfl (by kernel_rfl) (by kernel_rfl) (by kernel_rfl) (fun _ _ _ h => h) (Or.inr ⟨by rfl, rfl⟩) (by assumption) ?_
                try simp only [Act.put, List.setIfInBounds_toArray, List.set_cons_zero, List.set_cons_succ]
                refine wpAnyH_take (i := 7) (oi := { dst := some 78, op := _, type := _, pos := _, after := _, guard := _ }) (v := _) rfl (by kernel_rfl) (by kernel_rfl) (by kernel_rfl) (fun _ _ _ h => h) (Or.inr ⟨by rfl, rfl⟩) (by assumption) ?_
                try simp only [Act.put, List.setIfInBounds_toArray, List.set_cons_zero, List.set_cons_succ]
                refine wpAnyH_take (i := 8) (oi := { dst := some 79, op := _, type := _, pos := _, after := _, guard := _ }) (v := _) rfl (by kernel_rfl) (by kernel_rfl) (by kernel_rfl) (fun _ _ _ h => h) (Or.inr ⟨by rfl, rfl⟩) (by assumption) ?_
                try simp only [Act.put, List.setIfInBounds_toArray, List.set_cons_zero, List.set_cons_succ]
                refine wpAnyH_take (i := 9) (oi := { dst := some 80, op := _, type := _, pos := _, after := _, guard := _ }) (v := _) rfl (by kernel_rfl) (by kernel_rfl) (by kernel_rfl) (fun _ _ _ h => h) (Or.inr ⟨by rfl, rfl⟩) (by assumption) ?_
                try simp only [Act.put, List.setIfInBounds_toArray, List.set_cons_zero, List.set_cons_succ]
                refine wpAnyH_take (i := 10) (oi := { dst := some 81, op := _, type := _, pos := _, after := _, guard := _ }) (v := _) rfl (by kernel_rfl) (by kernel_rfl) (by kernel_rfl) (fun _ _ _ h => h) (Or.inr ⟨by rfl, rfl⟩) (by assumption) ?_
                try simp only [Act.put, List.setIfInBounds_toArray, List.set_cons_zero, List.set_cons_succ]
                refine wpAnyH_take (i := 11) (oi := { dst := some 82, op := _, type := _, pos := _, after := _, guard := _ }) (v := (.bool false)) rfl (by kernel_rfl) (by kernel_rfl) (by kernel_rfl) (fun _ _ _ h => h) (Or.inl ⟨by rfl, ?hy4⟩) (by assumption) ?rest4
                case hy4 => (intro w hSw; first | (go_simp; done) | (go_simp; simp [*]; done) | (simp [*]; go_simp; done))
                try simp only [Act.put, List.setIfInBounds_toArray, List.set_cons_zero, List.set_cons_succ]
                refine wpAnyH_done (by kernel_rfl) ?_ _
                clear hHeld
                go_wp2_with fail
                refine loop_at ?_
                have by7 := Below.up B7.out B8.out
                have cD := cells_two ((B8.out.block D GD.out.2).trans GD.out.1)
                obtain ⟨cD0, cD1, _⟩ := cD
                obtain ⟨cX0, cX1, cX2, cX3⟩ := SX.out W7.drew _ _ ((P5.out.below by7).less (fun p hp => by simp [hp]))
                have er := eq_run (x1, x2) (c1, c2)
                have fs := fnd_succ (c := (c1, c2)) HX4.out
                generalize eqE (x1, x2) (c1, c2) = q at er fs
                dsimp only at er
                have BY5 := keep by7
                rw [fnd_zero, Bool.false_or] at fs
                have FS := keep fs
                clear by7 cX0 cX1 fs
                try rw [fnd_zero]
                go_wp2
                go_roundg (n - (0 + 1))
                case measure => omega
                case rel => exact ⟨0 + 1, by simp, by omega, Nat.le_refl _, by simp [FS.out], BY5.out⟩
              · obtain ⟨jp, hjp⟩ : ∃ jp, j = jp + 1 := ⟨j - 1, by omega⟩
                obtain ⟨y, hy⟩ : ∃ y, l4[jp]? = some y := ⟨_, List.getElem?_eq_getElem (by have := HN4.out; omega)⟩
                obtain ⟨oP, hoP⟩ : ∃ o, o = jp * 2 := ⟨_, rfl⟩
                have cy := (cel_of (R5w.out W7 B7.out)) jp y hy
                rw [← hoP] at cy
                have cD := cells_two GD.out.1
                have hsn : snr y (x1, x2) = true := by
                  obtain ⟨ha, rfl⟩ := List.getElem?_eq_some_iff.1 hy
                  obtain ⟨hb', hx'⟩ := List.getElem?_eq_some_iff.1 HX4.out
                  have := List.pairwise_iff_getElem.1 ST.out.good.1 jp j ha hb' (by omega)
                  rwa [hx'] at this
                obtain ⟨y1, y2⟩ := y
                have mS := sooner_any (y1, y2) (x1, x2) W7.drew
                rw [hsn] at mS
                unfold agE at mS
                dsimp only at mS cy
                have MS := keep mS
                have hoP' : jp * 2 = oP := hoP.symm
                have p0 : (0 : Int) ≤ (jp : Int) := by omega
                have p1 : (jp : Int) < (n : Int) := by omega
                have hjw : IntKind.i64.wrap ((j : Int) - 1) = (jp : Int) := by have := HN4.out; have := ST.out.few; have := HM.out; rw [IntKind.wrap_i64]; omega
                have hjpos : decide ((0 : Int) < (j : Int)) = true := decide_eq_true (by omega)
                have hjpos' : 0 < j := by omega
                have S7 : Kept (C4 g oP (y1, y2) D (x1, x2) W7.drew) := ⟨cy.1, cy.2, cD.1, cD.2.1⟩
                have HJP := keep hjp
                clear hsn mS hy hoP cy cD hj0 hjp
                go_wp2_with fail
                try rw [hW7]
                refine wp_region_held_drew (S := C4 g oP (y1, y2) D (x1, x2)) (by kernel_rfl) S7.out (fun hHeld => ?_)
                refine wpAnyH_take (i := 0) (oi := { dst := some 71, op := _, type := _, pos := _, after := _, guard := _ }) (v := ?v5) rfl (by kernel_rfl) (by kernel_rfl) (by kernel_rfl) (fun _ _ _ h => h) (Or.inl ⟨by rfl, ?hy5⟩) (by assumption) ?rest5
                case hy5 => (intro w hSw; obtain ⟨p0,p1,p2,p3⟩ := hSw; go_simp; try with_reducible rfl)
                try simp only [Act.put, List.setIfInBounds_toArray, List.set_cons_zero, List.set_cons_succ]
                refine wpAnyH_take (i := 1) (oi := { dst := some 72, op := _, type := _, pos := _, after := _, guard := _ }) (v := (.bool true)) rfl (by kernel_rfl) (by kernel_rfl) (by kernel_rfl) (fun _ _ _ h => h) (Or.inl ⟨by rfl, ?hy6⟩) (by assumption) ?rest6
                case hy6 => (intro w hSw; obtain ⟨p0,p1,p2,p3⟩ := hSw; first | (go_simp; done) | (go_simp; simp [*]; done) | (simp [*]; go_simp; done))
                try simp only [Act.put, List.setIfInBounds_toArray, List.set_cons_zero, List.set_cons_succ]
                refine wpAnyH_take (i := 2) (oi := { dst := some 73, op := _, type := _, pos := _, after := _, guard := _ }) (v := (.bool true)) rfl (by kernel_rfl) (by kernel_rfl) (by kernel_rfl) (fun _ _ _ h => h) (Or.inl ⟨by rfl, ?hy7⟩) (by assumption) ?rest7
                case hy7 => (intro w hSw; obtain ⟨p0,p1,p2,p3⟩ := hSw; first | (go_simp; done) | (go_simp; simp [*]; done) | (simp [*]; go_simp; done))
                try simp only [Act.put, List.setIfInBounds_toArray, List.set_cons_zero, List.set_cons_succ]
                refine wpAnyH_take (i := 3) (oi := { dst := some 74, op := _, type := _, pos := _, after := _, guard := _ }) (v := ?v8) rfl (by kernel_rfl) (by kernel_rfl) (by kernel_rfl) (fun _ _ _ h => h) (Or.inl ⟨by rfl, ?hy8⟩) (by assumption) ?rest8
                case hy8 => (intro w hSw; obtain ⟨p0,p1,p2,p3⟩ := hSw; go_simp; try with_reducible rfl)
                try simp only [Act.put, List.setIfInBounds_toArray, List.set_cons_zero, List.set_cons_succ]
                refine wpAnyH_take (i := 4) (oi := { dst := some 75, op := _, type := _, pos := _, after := _, guard := _ }) (v := ?v9) rfl (by kernel_rfl) (by kernel_rfl) (by kernel_rfl) (fun _ _ _ h => h) (Or.inl ⟨by rfl, ?hy9⟩) (by assumption) ?rest9
                case hy9 => (intro w hSw; obtain ⟨p0,p1,p2,p3⟩ := hSw; go_simp; try with_reducible rfl)
                try simp only [Act.put, List.setIfInBounds_toArray, List.set_cons_zero, List.set_cons_succ]
                refine wpAnyH_take (i := 5) (oi := { dst := some 76, op := _, type := _, pos := _, after := _, guard := _ }) (v := (.int .i64 (jp : Int))) rfl (by kernel_rfl) (by kernel_rfl) (by kernel_rfl) (fun _ _ _ h => h) (Or.inl ⟨by rfl, ?hy10⟩) (by assumption) ?rest10
                case hy10 => (intro w hSw; obtain ⟨p0,p1,p2,p3⟩ := hSw; first | (go_simp; done) | (go_simp; simp [*]; done) | (simp [*]; go_simp; done))
                try simp only [Act.put, List.setIfInBounds_toArray, List.set_cons_zero, List.set_cons_succ]
                refine wpAnyH_take (i := 6) (oi := { dst := some 77, op := _, type := _, pos := _, after := _, guard := _ }) (v := (.pointer (some ⟨g, oP, none⟩))) rfl (by kernel_rfl) (by kernel_rfl) (by kernel_rfl) (fun _ _ _ h => h) (Or.inl ⟨by rfl, ?hy11⟩) (by assumption) ?rest11
                case hy11 => (intro w hSw; obtain ⟨p0,p1,p2,p3⟩ := hSw; first | (go_simp; done) | (go_simp; simp [*]; done) | (simp [*]; go_simp; done))
                try simp only [Act.put, List.setIfInBounds_toArray, List.set_cons_zero, List.set_cons_succ]
                refine wpAnyH_take (i := 7) (oi := { dst := some 78, op := _, type := _, pos := _, after := _, guard := _ }) (v := (.agg #[.string y1, .int .u64 y2])) rfl (by kernel_rfl) (by kernel_rfl) (by kernel_rfl) (fun _ _ _ h => h) (Or.inl ⟨by rfl, ?hy12⟩) (by assumption) ?rest12
                case hy12 => (intro w hSw; obtain ⟨p0,p1,p2,p3⟩ := hSw; first | (go_simp; done) | (go_simp; simp [*]; done) | (simp [*]; go_simp; done))
                try simp only [Act.put, List.setIfInBounds_toArray, List.set_cons_zero, List.set_cons_succ]
                refine wpAnyH_take (i := 8) (oi := { dst := some 79, op := _, type := _, pos := _, after := _, guard := _ }) (v := (.agg #[.string x1, .int .u64 x2])) rfl (by kernel_rfl) (by kernel_rfl) (by kernel_rfl) (fun _ _ _ h => h) (Or.inl ⟨by rfl, ?hy13⟩) (by assumption) ?rest13
                case hy13 => (intro w hSw; obtain ⟨p0,p1,p2,p3⟩ := hSw; first | (go_simp; done) | (go_simp; simp [*]; done) | (simp [*]; go_simp; done))
                try simp only [Act.put, List.setIfInBounds_toArray, List.set_cons_zero, List.set_cons_succ]
                refine wpAnyH_ready (rs := [9]) (by kernel_rfl) (by simp) ?_
                refine AllReadyH.cons (o := { dst := some 80, op := _, type := _, pos := _, after := _, guard := _ }) rfl (fun K hK => ?_) AllReadyH.nil
                go_simp
                refine MS.out.mono ?_
                rintro _ w8 ⟨rfl, hb8⟩
                have B8 : Kept (Below W7.heap.size W7 w8) := (Below.refl _ W7).drew.trans hb8
                refine hK.out _ _ (S7.out.bel hb8) (fun hHeld => ?_)
                try simp only [Act.put, List.setIfInBounds_toArray, List.set_cons_zero, List.set_cons_succ]
                clear hK hb8 MS
                refine wpAnyH_take (i := 10) (oi := { dst := some 81, op := _, type := _, pos := _, after := _, guard := _ }) (v := (.bool false)) rfl (by kernel_rfl) (by kernel_rfl) (by kernel_rfl) (fun _ _ _ h => h) (Or.inl ⟨by rfl, ?hy14⟩) (by assumption) ?rest14
                case hy14 => (intro w hSw; first | (go_simp; done) | (go_simp; simp [*]; done) | (simp [*]; go_simp; done))
                try simp only [Act.put, List.setIfInBounds_toArray, List.set_cons_zero, List.set_cons_succ]
                refine wpAnyH_take (i := 11) (oi := { dst := some 82, op := _, type := _, pos := _, after := _, guard := _ }) (v := (.bool false)) rfl (by kernel_rfl) (by kernel_rfl) (by kernel_rfl) (fun _ _ _ h => h) (Or.inl ⟨by rfl, ?hy15⟩) (by assumption) ?rest15
                case hy15 => (intro w hSw; first | (go_simp; done) | (go_simp; simp [*]; done) | (simp [*]; go_simp; done))
                try simp only [Act.put, List.setIfInBounds_toArray, List.set_cons_zero, List.set_cons_succ]
                refine wpAnyH_done (by kernel_rfl) ?_ _
                clear hHeld
                go_wp2_with fail
                go_loopg [84] j (fun kx s wy => ∃ t : Nat, s = .int .i64 t ∧ t ≤ j ∧ j - t ≤ kx ∧ Kept (Below W7.heap.size W7 wy))
                case atStart => exact ⟨0, rfl, Nat.zero_le _, by omega, B8.out⟩
                case round =>
                  obtain ⟨wy, hwy⟩ : ∃ x, x = wr := ⟨_, rfl⟩
                  subst hwy
                  obtain ⟨t, rfl, htj, hgt, BY⟩ := hrel
                  by_cases htl : t < j
                  · obtain ⟨z, hz⟩ : ∃ z, l4[t]? = some z := ⟨_, List.getElem?_eq_getElem (by have := HN4.out; omega)⟩
                    obtain ⟨oT, hoT⟩ : ∃ o, o = t * 2 := ⟨_, rfl⟩
                    have by7 := Below.up B7.out BY.out
                    have cz := (cel_of (R5w.out wy by7)) t z hz
                    rw [← hoT] at cz
                    have cD := cells_two ((BY.out.block D GD.out.2).trans GD.out.1)
                    have hne : (z.1.toList == x1.toList) = false := by
                      refine beq_eq_false_iff_ne.2 (fun e => ?_)
                      have := good_place ST.out.good.2 hz HX4.out (tl_inj e)
                      omega
                    obtain ⟨z1, z2⟩ := z
                    dsimp only at cz hne
                    have hoT' : t * 2 = oT := hoT.symm
                    have t0 : (0 : Int) ≤ (t : Int) := by omega
                    have t1 : (t : Int) < (n : Int) := by omega
                    have SY : Kept (wy.drew.cell? ⟨g, oT, none⟩ = some (.string z1) ∧ wy.drew.cell? ⟨D, 0, none⟩ = some (.string x1)) := ⟨cz.1, cD.1⟩
                    have BY' : Kept (Below W7.heap.size W7 wy.drew) := BY.out.drew
                    have hwt : IntKind.i64.wrap ((t : Int) + 1) = (t : Int) + 1 := by have := HN4.out; have := ST.out.few; have := HM.out; rw [IntKind.wrap_i64]; omega
                    clear hz hoT by7 cz cD
                    go_wp2_with fail
                    refine wp_region_held_drew (S := fun W => W.cell? ⟨g, oT, none⟩ = some (.string z1) ∧ W.cell? ⟨D, 0, none⟩ = some (.string x1)) (by kernel_rfl) SY.out (fun hHeld => ?_)
                    refine wpAnyH_take (i := 0) (oi := { dst := some 87, op := _, type := _, pos := _, after := _, guard := _ }) (v := ?v16) rfl (by kernel_rfl) (by kernel_rfl) (by kernel_rfl) (fun _ _ _ h => h) (Or.inl ⟨by rfl, ?hy16⟩) (by assumption) ?rest16
                    case hy16 => (intro w hSw; obtain ⟨p0,p1⟩ := hSw; go_simp; try with_reducible rfl)
                    try simp only [Act.put, List.setIfInBounds_toArray, List.set_cons_zero, List.set_cons_succ]
                    refine wpAnyH_take (i := 1) (oi := { dst := some 88, op := _, type := _, pos := _, after := _, guard := _ }) (v := ?v17) rfl (by kernel_rfl) (by kernel_rfl) (by kernel_rfl) (fun _ _ _ h => h) (Or.inl ⟨by rfl, ?hy17⟩) (by assumption) ?rest17
                    case hy17 => (intro w hSw; obtain ⟨p0,p1⟩ := hSw; go_simp; try with_reducible rfl)
                    try simp only [Act.put, List.setIfInBounds_toArray, List.set_cons_zero, List.set_cons_succ]
                    refine wpAnyH_take (i := 2) (oi := { dst := some 89, op := _, type := _, pos := _, after := _, guard := _ }) (v := (.pointer (some ⟨g, oT, none⟩))) rfl (by kernel_rfl) (by kernel_rfl) (by kernel_rfl) (fun _ _ _ h => h) (Or.inl ⟨by rfl, ?hy18⟩) (by assumption) ?rest18
                    case hy18 => (intro w hSw; obtain ⟨p0,p1⟩ := hSw; first | (go_simp; done) | (go_simp; simp [*]; done) | (simp [*]; go_simp; done))
                    try simp only [Act.put, List.setIfInBounds_toArray, List.set_cons_zero, List.set_cons_succ]
                    refine wpAnyH_take (i := 3) (oi := { dst := some 90, op := _, type := _, pos := _, after := _, guard := _ }) (v := (.pointer (some ⟨g, oT, none⟩))) rfl (by kernel_rfl) (by kernel_rfl) (by kernel_rfl) (fun _ _ _ h => h) (Or.inl ⟨by rfl, ?hy19⟩) (by assumption) ?rest19
                    case hy19 => (intro w hSw; obtain ⟨p0,p1⟩ := hSw; first | (go_simp; done) | (go_simp; simp [*]; done) | (simp [*]; go_simp; done))
                    try simp only [Act.put, List.setIfInBounds_toArray, List.set_cons_zero, List.set_cons_succ]
                    refine wpAnyH_take (i := 4) (oi := { dst := some 91, op := _, type := _, pos := _, after := _, guard := _ }) (v := (.string z1)) rfl (by kernel_rfl) (by kernel_rfl) (by kernel_rfl) (fun _ _ _ h => h) (Or.inl ⟨by rfl, ?hy20⟩) (by assumption) ?rest20
                    case hy20 => (intro w hSw; obtain ⟨p0,p1⟩ := hSw; first | (go_simp; done) | (go_simp; simp [*]; done) | (simp [*]; go_simp; done))
                    try simp only [Act.put, List.setIfInBounds_toArray, List.set_cons_zero, List.set_cons_succ]
                    refine wpAnyH_take (i := 5) (oi := { dst := some 92, op := _, type := _, pos := _, after := _, guard := _ }) (v := (.pointer (some ⟨D, 0, none⟩))) rfl (by kernel_rfl) (by kernel_rfl) (by kernel_rfl) (fun _ _ _ h => h) (Or.inl ⟨by rfl, ?hy21⟩) (by assumption) ?rest21
                    case hy21 => (intro w hSw; obtain ⟨p0,p1⟩ := hSw; first | (go_simp; done) | (go_simp; simp [*]; done) | (simp [*]; go_simp; done))
                    try simp only [Act.put, List.setIfInBounds_toArray, List.set_cons_zero, List.set_cons_succ]
                    refine wpAnyH_take (i := 6) (oi := { dst := some 93, op := _, type := _, pos := _, after := _, guard := _ }) (v := (.string x1)) rfl (by kernel_rfl) (by kernel_rfl) (by kernel_rfl) (fun _ _ _ h => h) (Or.inl ⟨by rfl, ?hy22⟩) (by assumption) ?rest22
                    case hy22 => (intro w hSw; obtain ⟨p0,p1⟩ := hSw; first | (go_simp; done) | (go_simp; simp [*]; done) | (simp [*]; go_simp; done))
                    try simp only [Act.put, List.setIfInBounds_toArray, List.set_cons_zero, List.set_cons_succ]
                    refine wpAnyH_take (i := 7) (oi := { dst := some 94, op := _, type := _, pos := _, after := _, guard := _ }) (v := (.bool false)) rfl (by kernel_rfl) (by kernel_rfl) (by kernel_rfl) (fun _ _ _ h => h) (Or.inl ⟨by rfl, ?hy23⟩) (by assumption) ?rest23
                    case hy23 => (intro w hSw; obtain ⟨p0,p1⟩ := hSw; first | (go_simp; done) | (go_simp; simp [*]; done) | (simp [*]; go_simp; done))
                    try simp only [Act.put, List.setIfInBounds_toArray, List.set_cons_zero, List.set_cons_succ]
                    refine wpAnyH_done (by kernel_rfl) ?_ _
                    clear hHeld
                    go_wp2
                    go_roundg (j - (t + 1))
                    case measure => omega
                    case rel => exact ⟨t + 1, by simp, by omega, Nat.le_refl _, BY'.out⟩
                  · obtain rfl : t = j := by omega
                    have by7 := Below.up B7.out BY.out
                    have cD := cells_two ((BY.out.block D GD.out.2).trans GD.out.1)
                    obtain ⟨cD0, cD1, _⟩ := cD
                    obtain ⟨cX0, cX1, cX2, cX3⟩ := SX.out wy _ _ ((P5.out.below by7).less (fun p hp => by simp [hp]))
                    have er := eq_run (x1, x2) (c1, c2)
                    have fs := fnd_succ (c := (c1, c2)) HX4.out
                    generalize eqE (x1, x2) (c1, c2) = q at er fs
                    dsimp only at er
                    have BY5 := keep by7
                    have hwj : IntKind.i64.wrap ((t : Int) + 1) = (t : Int) + 1 := by have := HN4.out; have := ST.out.few; have := HM.out; rw [IntKind.wrap_i64]; omega
                    clear by7 cX0 cX1
                    cases hf : fnd (c1, c2) l4 t
                    · rw [hf, Bool.false_or] at fs
                      have FS := keep fs
                      clear fs hf
                      go_wp2
                      go_roundg (n - (t + 1))
                      case measure => omega
                      case rel => exact ⟨t + 1, by simp, by omega, Nat.le_refl _, by simp [FS.out], BY5.out⟩
                    · rw [hf, Bool.true_or] at fs
                      have FS := keep fs
                      clear fs hf
                      go_wp2
                      go_roundg (n - (t + 1))
                      case measure => omega
                      case rel => exact ⟨t + 1, by simp, by omega, Nat.le_refl _, by simp [FS.out], BY5.out⟩
            · obtain rfl : j = n := by omega
              have hfn : fnd (c1, c2) l4 j = true ↔ (c1, c2) ∈ l4 := by have := HN4.out; rw [← this]; exact fnd_all
              generalize fnd (c1, c2) l4 j = ff at *
              obtain ⟨cX0, cX1, cX2, cX3⟩ := SX.out wr' _ _ ((P5.out.below BW.out).less (fun p hp => by simp [hp]))
              have FIN : Kept (∀ wz, Below w5.heap.size w5 wz → PX W [] wz b v4 m l4) := fun wz hb => (P5.out.below hb).less (fun p hp => by cases hp)
              clear cX0 cX2 cX3
              by_cases a0 : act = 0
              · subst a0
                obtain ⟨o1, o2, o3⟩ := ST.out.off rfl
                have hfk : ff = kp := by
                  cases ff <;> cases kp
                  · rfl
                  · exact absurd (hfn.2 (o1.1 rfl)) (by simp)
                  · exact absurd (o1.2 (hfn.1 rfl)) (by simp)
                  · rfl
                subst hfk
                have hle : decide ((j : Int) < (nu : Int)) = false := decide_eq_false (by have := HN4.out; have := HNU.out; omega)
                have hle' : ¬ j < nu := by have := HN4.out; have := HNU.out; omega
                have hle2 : ¬ (j : Int) < (nu : Int) := by omega
                cases ff
                · have hll := o3 rfl
                  have MS := keep (same_any wr' _ _ l4 l (R5all.out wr' BW.out) (RUall.out wr' BW.out) (by have := ST.out.few; have := HM.out; omega))
                  have HSM : Kept (smL l4 l = true) := smL_iff.2 hll
                  clear o1 o2 o3 hfn hll
                  go_wp2_with fail
                  refine MS.out.mono ?_
                  rintro _ w9 ⟨rfl, hb9⟩
                  rw [HSM.out]
                  obtain ⟨cX0, cX1', _, _⟩ := SX.out w9 _ _ ((P5.out.below (Below.up BW.out hb9)).less (fun p hp => by simp [hp]))
                  have P9 := keep (FIN.out w9 (Below.up BW.out hb9))
                  clear hb9 MS cX0
                  go_wp2
                  go_roundg (nS - (k + 1))
                  case measure => omega
                  case rel => exact ⟨k + 1, by simp, by omega, Nat.le_refl _, v4, l4, P9.out, ⟨ST.out.good, ST.out.few⟩⟩
                · clear o1 o2 o3 hfn
                  have P9 := keep (FIN.out wr' BW.out)
                  go_wp2
                  go_roundg (nS - (k + 1))
                  case measure => omega
                  case rel => exact ⟨k + 1, by simp, by omega, Nat.le_refl _, v4, l4, P9.out, ⟨ST.out.good, ST.out.few⟩⟩
              · have a0b : (act == 0) = false := beq_eq_false_iff_ne.2 a0
                have P9 := keep (FIN.out wr' BW.out)
                by_cases a1 : act = 1
                · subst a1
                  have hff : ff = false := by
                    cases ff
                    · rfl
                    · exact absurd (hfn.1 rfl) (ST.out.drp rfl)
                  subst hff
                  clear hfn
                  go_wp2
                  go_roundg (nS - (k + 1))
                  case measure => omega
                  case rel => exact ⟨k + 1, by simp, by omega, Nat.le_refl _, v4, l4, P9.out, ⟨ST.out.good, ST.out.few⟩⟩
                · have a1b : (act == 1) = false := beq_eq_false_iff_ne.2 a1
                  clear hfn
                  go_wp2
                  go_roundg (nS - (k + 1))
                  case measure => omega
                  case rel => exact ⟨k + 1, by simp, by omega, Nat.le_refl _, v4, l4, P9.out, ⟨ST.out.good, ST.out.few⟩⟩
      · obtain rfl : k = nS := by omega
        have HB := keep KP.out.bel
        go_wp2
        go_ret
        exact ⟨rfl, HB.out⟩
end Go.Proofs.Ytgniiojeeobffaa
