/-
  Contracts over this program: what the document's own set answers, where a ^ leads it.
-/
import Derived.Test.YtmlpfijabdkbjaaGlobRefSet
import Derived.Deep.LoopGhost
namespace Go.Proofs.Ytmlpfijabdkbjaa
open Go.RowKit
set_option maxHeartbeats 8000000 in
set_option maxRecDepth 100000 in
theorem rset_caret (p : ByteArray) (a : Nat) (w : World) (hp : p.size ≤ 1099511627776) (hlt0 : a < p.size) (h94 : (p[a].toNat : Int) = 94) :
    Calls Try.prog 15 #[.string p, .int .i64 a] w fun e w' => ∃ n : Nat, e = .returned (.tuple #[.agg (row false (fun i => Gb.setM (Gb.ins p a) (UInt8.ofNat i)) 0 false).toArray, .int .i64 n]) ∧ Below w.heap.size w w' ∧ Kept (Gb.beh p a = Gb.D p n) ∧ a ≤ n ∧ n ≤ p.size := by
  have hz := zero_sign.1
  have zs := zeroRow_size
  have T0 : Kept (tabAt ((w.alloc (Obj.cells zeroRow 36)).alloc (Obj.cells zeroRow 36)) (w.heap.size + 1) false (fun _ => false) 0 false) := by
    have h := tab_new (w.alloc (Obj.cells zeroRow 36))
    rw [World.size_alloc] at h
    exact h
  have T1 := keep (tab_below (tab_new w) (bel_alloc0 _ (Obj.cells zeroRow 36)))
  have T2 := belTrans (bel_alloc0 w (Obj.cells zeroRow 36)) (bel_alloc0 _ (Obj.cells zeroRow 36))
  go_enter Try.func15, Try.ntmps15
  go_wp2
  go_loopg [1] (p.size - (a + 1)) (fun g v1 wx => ∃ (n : Nat) (f : Nat → Bool), n + g = p.size ∧ (a + 1) ≤ n ∧ v1 = .int .i64 n ∧ Kept (tabAt wx (w.heap.size + 1) false f 0 false) ∧ Kept (tabAt wx w.heap.size false (fun _ => false) 0 false) ∧ Kept (Gb.tabRel p (a + 1) n f) ∧ Below w.heap.size w wx)
  case atStart => exact ⟨(a + 1), fun _ => false, by omega, by omega, by first | rfl | go_num, T0, T1, Gb.tabRel_zero p (a + 1), T2⟩
  case round =>
    obtain ⟨n, f, hng, hn0, rfl, hT, hR, hrl, hbw⟩ := hrel
    by_cases hov : Gb.over p n
    · have hf := keep (Gb.tabRel_end hrl.out hov)
      have io := fun w => item_over p n w hov
      rcases hov with ho | ⟨ho, hb⟩
      · have hnx : Kept (Gb.beh p a = Gb.D p n) := by
          show _ = _
          rw [beh_caret p a hlt0 h94, ← hrl.out.2]
          unfold Gb.beh
          rw [Gb.cutEnd p n ho, Gb.D_nil p n ho]
        clear T0 T1 T2
        have hbw := keep hbw
        go_wp2_with fail
        refine (io _).mono ?_
        rintro e w' ⟨rfl, hw⟩; obtain rfl := hw.symm
        clear io hz
        go_wp2
        obtain ⟨wo, hwo⟩ : ∃ x, x = wr := ⟨_, rfl⟩
        subst hwo
        go_loopg [16] 256 (fun g v16 wy => ∃ (x : Nat) (ff : Nat → Bool), x + g = 256 ∧ v16 = .int .i64 x ∧ Kept (tabAt wy (w.heap.size + 1) false ff 0 false) ∧ Kept (tabAt wy w.heap.size false (fun _ => false) 0 false) ∧ Kept (flipRel f ff x) ∧ Below w.heap.size w wy)
        case atStart => exact ⟨0, f, by omega, rfl, hT, hR, flip_zero f, hbw.out⟩
        case round =>
          clear hT hR hbw
          obtain ⟨x, ff, hxg, rfl, hT, hR, hIn, hbw⟩ := hrel
          by_cases hx : x < 256
          · have c1 := tab_cell hT.out (1 + x) (row_byte false ff 0 false hx)
            have c2 := tab_free hT.out (j := 1 + x) (by omega)
            go_wp2
            go_roundg (255 - x)
            case measure => omega
            case rel => exact ⟨x + 1, upd ff x (!ff x), by omega, by go_num, tab_upd hT.out x _ hx, tab_far hR.out (by omega) _ _, flip_more hIn.out, hbw.setCell (by simp) _⟩
          · have hx' : x = 256 := by omega
            subst hx'
            have hbw := keep hbw
            have hrg := keep hT.out.1
            have hth := keep (there_row hR.out.2 false ff 0 false)
            go_wp2_with (first
              | (refine wpList_load_mid rfl 36 (.tmp 6) rfl (w.heap.size + 1) 0 rfl (row false ff 0 false) _ hrg.out Try.underlying36 rfl (info_list false ff 0 false) ?_)
              | (refine wpList_store_mid rfl 36 (.tmp 4) (.tmp 110) rfl w.heap.size 0 (row false ff 0 false).toArray rfl rfl hth.out (info_arr false ff 0 false) (row_one_cell false ff 0 false) ?_))
            refine bodyPost_ret (ret_cell rfl rfl (load_row hR.out.2)) rfl ?_
            exact ⟨n, ret_agg (row_same (fun i hi => tab_names_not p a hlt0 h94 hf.out (flip_all hIn.out hi) hi)) (by omega), Go.Lib.below_setCells w.heap.size (Nat.le_refl _) (row false ff 0 false) 0 hbw.out, hnx, by omega, by omega⟩
      · have hnx : Kept (Gb.beh p a = Gb.D p (n + 1)) := by
          show _ = _
          rw [beh_caret p a hlt0 h94, ← hrl.out.2]
          unfold Gb.beh
          rw [Gb.cutClose ho hb]
        clear T0 T1 T2
        have hbw := keep hbw
        go_wp2_with fail
        refine (io _).mono ?_
        rintro e w' ⟨rfl, hw⟩; obtain rfl := hw.symm
        clear io hz
        go_wp2
        obtain ⟨wo, hwo⟩ : ∃ x, x = wr := ⟨_, rfl⟩
        subst hwo
        go_loopg [16] 256 (fun g v16 wy => ∃ (x : Nat) (ff : Nat → Bool), x + g = 256 ∧ v16 = .int .i64 x ∧ Kept (tabAt wy (w.heap.size + 1) false ff 0 false) ∧ Kept (tabAt wy w.heap.size false (fun _ => false) 0 false) ∧ Kept (flipRel f ff x) ∧ Below w.heap.size w wy)
        case atStart => exact ⟨0, f, by omega, rfl, hT, hR, flip_zero f, hbw.out⟩
        case round =>
          clear hT hR hbw
          obtain ⟨x, ff, hxg, rfl, hT, hR, hIn, hbw⟩ := hrel
          by_cases hx : x < 256
          · have c1 := tab_cell hT.out (1 + x) (row_byte false ff 0 false hx)
            have c2 := tab_free hT.out (j := 1 + x) (by omega)
            go_wp2
            go_roundg (255 - x)
            case measure => omega
            case rel => exact ⟨x + 1, upd ff x (!ff x), by omega, by go_num, tab_upd hT.out x _ hx, tab_far hR.out (by omega) _ _, flip_more hIn.out, hbw.setCell (by simp) _⟩
          · have hx' : x = 256 := by omega
            subst hx'
            have hbw := keep hbw
            have hrg := keep hT.out.1
            have hth := keep (there_row hR.out.2 false ff 0 false)
            go_wp2_with (first
              | (refine wpList_load_mid rfl 36 (.tmp 6) rfl (w.heap.size + 1) 0 rfl (row false ff 0 false) _ hrg.out Try.underlying36 rfl (info_list false ff 0 false) ?_)
              | (refine wpList_store_mid rfl 36 (.tmp 4) (.tmp 110) rfl w.heap.size 0 (row false ff 0 false).toArray rfl rfl hth.out (info_arr false ff 0 false) (row_one_cell false ff 0 false) ?_))
            refine bodyPost_ret (ret_cell rfl rfl (load_row hR.out.2)) rfl ?_
            exact ⟨n + 1, ret_agg (row_same (fun i hi => tab_names_not p a hlt0 h94 hf.out (flip_all hIn.out hi) hi)) (by omega), Go.Lib.below_setCells w.heap.size (Nat.le_refl _) (row false ff 0 false) 0 hbw.out, hnx, by omega, by omega⟩
    · have hlt : n < p.size := by
        apply Decidable.byContradiction
        intro h; exact hov (.inl (by omega))
      have h93 : ¬ (p[n].toNat : Int) = 93 := fun h => hov (.inr ⟨hlt, h⟩)
      clear hov
      go_wp2_with fail
      refine (item_there p n _ hp hlt h93).mono ?_
      rintro e w' ⟨a1, m, rfl, hw, hr1, hm1, hm2⟩; obtain rfl := hw.symm
      have ha1 := a1.toNat_lt
      by_cases hm : m < p.size
      · by_cases h45 : (p[m].toNat : Int) = 45
        · by_cases ho2 : Gb.over p (m + 1)
          · have hst := keep (Gb.in_item hlt h93 hr1.out (fun _ _ => ho2))
            have hbh := keep (Gb.ins_item hlt h93 hr1.out).2.1
            have io := fun w => item_over p (m + 1) w ho2
            clear ho2
            go_wp2_with fail
            refine (io _).mono ?_
            rintro e w' ⟨rfl, hw⟩; obtain rfl := hw.symm
            clear io
            have hne := keep (Gb.ins_item hlt h93 hr1.out).2.2
            go_wp2
            obtain ⟨wo, hwo⟩ : ∃ x, x = wr := ⟨_, rfl⟩
            subst hwo
            go_loopg [15] 256 (fun g v15 wy => ∃ (x : Nat) (ff : Nat → Bool), x + g = 256 ∧ v15 = .int .i64 x ∧ Kept (tabAt wy (w.heap.size + 1) false ff 0 false) ∧ Kept (tabAt wy w.heap.size false (fun _ => false) 0 false) ∧ Kept (inRel f ff a1 a1 x) ∧ Below w.heap.size w wy)
            case atStart => exact ⟨0, f, by omega, rfl, hT, hR, in_zero f a1 a1, hbw⟩
            case round =>
              clear hT hR hbw
              obtain ⟨x, ff, hxg, rfl, hT, hR, hIn, hbw⟩ := hrel
              by_cases hx : x < 256
              · have c1 := tab_cell hT.out (1 + x) (row_byte false ff 0 false hx)
                have c2 := tab_free hT.out (j := 1 + x) (by omega)
                go_wp2
                all_goals
                  go_roundg (255 - x)
                  case measure => omega
                  case rel => first
                    | exact ⟨x + 1, upd ff x true, by omega, by go_num, tab_upd hT.out x true hx, tab_far hR.out (by omega) _ _, in_yes hIn.out (by omega), hbw.setCell (by simp) _⟩
                    | exact ⟨x + 1, ff, by omega, by go_num, hT, hR, in_no hIn.out (by omega), hbw⟩
              · have hx' : x = 256 := by omega
                subst hx'
                have hrl2 : Kept (Gb.tabRel p (a + 1) m ff) := Gb.tabRel_step hrl.out hne.out hst.out hbh.out (fun y => in_all hIn.out y)
                clear hIn
                go_wp2
                go_roundg (p.size - m)
                case measure => omega
                case rel => exact ⟨m, ff, by omega, by omega, rfl, hT, hR, hrl2, hbw⟩
          · have hlt2 : m + 1 < p.size := by
              apply Decidable.byContradiction
              intro h; exact ho2 (.inl (by omega))
            have h932 : ¬ (p[m + 1].toNat : Int) = 93 := fun h => ho2 (.inr ⟨hlt2, h⟩)
            clear ho2
            go_wp2_with fail
            refine (item_there p (m + 1) _ hp hlt2 h932).mono ?_
            rintro e w' ⟨c, q, rfl, hw, hr2, hq1, hq2⟩; obtain rfl := hw.symm
            have hc1 := c.toNat_lt
            have hst := keep (Gb.in_range hlt h93 hr1.out hm h45 hlt2 h932 hr2.out).1
            have hbh := keep (Gb.in_range hlt h93 hr1.out hm h45 hlt2 h932 hr2.out).2
            have hne := keep (Gb.ins_item hlt h93 hr1.out).2.2
            go_wp2
            obtain ⟨wo, hwo⟩ : ∃ x, x = wr := ⟨_, rfl⟩
            subst hwo
            go_loopg [15] 256 (fun g v15 wy => ∃ (x : Nat) (ff : Nat → Bool), x + g = 256 ∧ v15 = .int .i64 x ∧ Kept (tabAt wy (w.heap.size + 1) false ff 0 false) ∧ Kept (tabAt wy w.heap.size false (fun _ => false) 0 false) ∧ Kept (inRel f ff a1 c x) ∧ Below w.heap.size w wy)
            case atStart => exact ⟨0, f, by omega, rfl, hT, hR, in_zero f a1 c, hbw⟩
            case round =>
              clear hT hR hbw
              obtain ⟨x, ff, hxg, rfl, hT, hR, hIn, hbw⟩ := hrel
              by_cases hx : x < 256
              · have c1 := tab_cell hT.out (1 + x) (row_byte false ff 0 false hx)
                have c2 := tab_free hT.out (j := 1 + x) (by omega)
                go_wp2
                all_goals
                  go_roundg (255 - x)
                  case measure => omega
                  case rel => first
                    | exact ⟨x + 1, upd ff x true, by omega, by go_num, tab_upd hT.out x true hx, tab_far hR.out (by omega) _ _, in_yes hIn.out (by omega), hbw.setCell (by simp) _⟩
                    | exact ⟨x + 1, ff, by omega, by go_num, hT, hR, in_no hIn.out (by omega), hbw⟩
              · have hx' : x = 256 := by omega
                subst hx'
                have hrl2 : Kept (Gb.tabRel p (a + 1) q ff) := Gb.tabRel_step hrl.out hne.out hst.out hbh.out (fun y => in_all hIn.out y)
                clear hIn
                go_wp2
                go_roundg (p.size - q)
                case measure => omega
                case rel => exact ⟨q, ff, by omega, by omega, rfl, hT, hR, hrl2, hbw⟩
        · have d45 : ((p[m].toNat : Int) == 45) = false := beq_eq_false_iff_ne.2 h45
          have hst := keep (Gb.in_item hlt h93 hr1.out (fun _ h => absurd h h45))
          have hbh := keep (Gb.ins_item hlt h93 hr1.out).2.1
          have hne := keep (Gb.ins_item hlt h93 hr1.out).2.2
          go_wp2
          obtain ⟨wo, hwo⟩ : ∃ x, x = wr := ⟨_, rfl⟩
          subst hwo
          go_loopg [15] 256 (fun g v15 wy => ∃ (x : Nat) (ff : Nat → Bool), x + g = 256 ∧ v15 = .int .i64 x ∧ Kept (tabAt wy (w.heap.size + 1) false ff 0 false) ∧ Kept (tabAt wy w.heap.size false (fun _ => false) 0 false) ∧ Kept (inRel f ff a1 a1 x) ∧ Below w.heap.size w wy)
          case atStart => exact ⟨0, f, by omega, rfl, hT, hR, in_zero f a1 a1, hbw⟩
          case round =>
            clear hT hR hbw
            obtain ⟨x, ff, hxg, rfl, hT, hR, hIn, hbw⟩ := hrel
            by_cases hx : x < 256
            · have c1 := tab_cell hT.out (1 + x) (row_byte false ff 0 false hx)
              have c2 := tab_free hT.out (j := 1 + x) (by omega)
              go_wp2
              all_goals
                go_roundg (255 - x)
                case measure => omega
                case rel => first
                  | exact ⟨x + 1, upd ff x true, by omega, by go_num, tab_upd hT.out x true hx, tab_far hR.out (by omega) _ _, in_yes hIn.out (by omega), hbw.setCell (by simp) _⟩
                  | exact ⟨x + 1, ff, by omega, by go_num, hT, hR, in_no hIn.out (by omega), hbw⟩
            · have hx' : x = 256 := by omega
              subst hx'
              have hrl2 : Kept (Gb.tabRel p (a + 1) m ff) := Gb.tabRel_step hrl.out hne.out hst.out hbh.out (fun y => in_all hIn.out y)
              clear hIn
              go_wp2
              go_roundg (p.size - m)
              case measure => omega
              case rel => exact ⟨m, ff, by omega, by omega, rfl, hT, hR, hrl2, hbw⟩
      · have hst := keep (Gb.in_item hlt h93 hr1.out (fun h => absurd h hm))
        have hbh := keep (Gb.ins_item hlt h93 hr1.out).2.1
        have hne := keep (Gb.ins_item hlt h93 hr1.out).2.2
        go_wp2
        obtain ⟨wo, hwo⟩ : ∃ x, x = wr := ⟨_, rfl⟩
        subst hwo
        go_loopg [15] 256 (fun g v15 wy => ∃ (x : Nat) (ff : Nat → Bool), x + g = 256 ∧ v15 = .int .i64 x ∧ Kept (tabAt wy (w.heap.size + 1) false ff 0 false) ∧ Kept (tabAt wy w.heap.size false (fun _ => false) 0 false) ∧ Kept (inRel f ff a1 a1 x) ∧ Below w.heap.size w wy)
        case atStart => exact ⟨0, f, by omega, rfl, hT, hR, in_zero f a1 a1, hbw⟩
        case round =>
          clear hT hR hbw
          obtain ⟨x, ff, hxg, rfl, hT, hR, hIn, hbw⟩ := hrel
          by_cases hx : x < 256
          · have c1 := tab_cell hT.out (1 + x) (row_byte false ff 0 false hx)
            have c2 := tab_free hT.out (j := 1 + x) (by omega)
            go_wp2
            all_goals
              go_roundg (255 - x)
              case measure => omega
              case rel => first
                | exact ⟨x + 1, upd ff x true, by omega, by go_num, tab_upd hT.out x true hx, tab_far hR.out (by omega) _ _, in_yes hIn.out (by omega), hbw.setCell (by simp) _⟩
                | exact ⟨x + 1, ff, by omega, by go_num, hT, hR, in_no hIn.out (by omega), hbw⟩
          · have hx' : x = 256 := by omega
            subst hx'
            have hrl2 : Kept (Gb.tabRel p (a + 1) m ff) := Gb.tabRel_step hrl.out hne.out hst.out hbh.out (fun y => in_all hIn.out y)
            clear hIn
            go_wp2
            go_roundg (p.size - m)
            case measure => omega
            case rel => exact ⟨m, ff, by omega, by omega, rfl, hT, hR, hrl2, hbw⟩
end Go.Proofs.Ytmlpfijabdkbjaa
