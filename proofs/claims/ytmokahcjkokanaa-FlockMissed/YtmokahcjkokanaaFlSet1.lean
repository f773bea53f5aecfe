/-
  The statement's own walk: a flock is a set, and its cost that of its members.
-/
import Derived.Test.YtmokahcjkokanaaFlSet0
namespace Go.Proofs.Ytmokahcjkokanaa
open Go.RowKit Go.Shelf
/-- behind k steps -/
def FsI (h : ByteArray → Nat) (W : World) (x k : Nat) (v : Value) (w : World) : Prop := ∃ r s l, Fb h k W w r x s v l ∧ Lk s l ∧ ln s ≤ k
/-- a flock, a plain row, and its members in a row -/
def F2 (h : ByteArray → Nat) (N : Nat) (W w : World) (r : Roles) (x : Nat) (s : Sx) (v : Value) (l : List ByteArray) (v2 : Value) (L : List ByteArray) : Prop :=
  Fb h N W w r x s v l ∧ Ks W.heap.size w v2 L ∧ ∀ g, v2.ownBlock = some g → rr r (W.heap.size + 1) g = (0, 0)
theorem F2.op {h : ByteArray → Nat} {N N' : Nat} {W w w' : World} {r r' : Roles} {x : Nat} {s s' : Sx} {v v2 : Value} {l L : List ByteArray} (hb : F2 h N W w r x s v l v2 L) (h1 : Rec h N' w' r' (W.heap.size + 1) W.heap.size x s') (hf : Fr w (rr r (W.heap.size + 1)) w' (rr r' (W.heap.size + 1))) : F2 h N' W w' r' x s' v l v2 L :=
  ⟨hb.1.op h1 hf, own_kept hb.2.1 (fun k hk => (hf.2.2 k (own_lt hb.2.1 hk) (hb.2.2 k hk)).1), fun g hg => (hf.2.2 g (own_lt hb.2.1 hg) (hb.2.2 g hg)).2⟩
theorem F2.below {h : ByteArray → Nat} {N : Nat} {W w w' : World} {r : Roles} {x : Nat} {s : Sx} {v v2 : Value} {l L : List ByteArray} (hb : F2 h N W w r x s v l v2 L) (hw : Below w.heap.size w w') : F2 h N W w' r x s v l v2 L :=
  ⟨hb.1.below hw, own_kept hb.2.1 (fun k hk => hw.block k (own_lt hb.2.1 hk)), hb.2.2⟩
theorem filter_take {l : List ByteArray} {k : Nat} {e f : ByteArray} (he : l[k]? = some e) : (l.take (k + 1)).filter (fun x => decide (x ≠ f)) = (l.take k).filter (fun x => decide (x ≠ f)) ++ if e = f then [] else [e] := by
  obtain ⟨hk, rfl⟩ := List.getElem?_eq_some_iff.1 he
  rw [List.take_succ_eq_append_getElem hk, List.filter_append]
  congr 1
  by_cases h : l[k] = f <;> simp [h]
set_option maxRecDepth 100000 in
set_option maxHeartbeats 8000000 in
theorem set_walk [Inhabited Txt] {h : ByteArray → Nat} (W0 : World) (x : Nat) (hH : HashIs x h) (so : Option Addr) (cap : Nat) (S : List Stp) (hS : Steps W0 so S) (hn1 : S.length ≤ 1048576) :
    Calls Try.prog 3 #[.int .u64 x, .slice so S.length cap] W0 fun e w' => e = .returned (.bool true) ∧ Below W0.heap.size W0 w' := by
  obtain ⟨n, hn⟩ : ∃ n, S.length = n := ⟨_, rfl⟩
  have HS := keep hS
  have HN := keep hn
  rw [hn] at hn1 ⊢
  have HN1 := keep hn1
  clear hS hn hn1
  go_enter Try.func3, Try.ntmps3
  go_wp2_with fail
  refine (wakes_any W0).mono ?_
  rintro _ W ⟨rfl, hbW⟩
  have HBW := keep hbW
  clear hbW
  go_wp2_with fail
  refine (rnew_any h W x 0).mono ?_
  rintro _ w1 ⟨rfl, hb1, hr1⟩
  have I1 : Kept (FsI h W x 0 (.slice none 0 0) w1) :=
    ⟨_, _, [], ⟨⟨hr1, by omega, fun k hk => by simp; omega, hb1⟩, ks_nil _ _, fun g hg => by cases hg⟩, lk_empty, by rw [ln_none]; omega⟩
  clear hb1 hr1
  go_wp2
  go_loopw [6, 27] (fun v i wr => ∃ k : Nat, k ≤ n ∧ i = .int .i64 k ∧ Kept (FsI h W x k v wr)) (fun _ i _ => n - (intOf i).toNat)
  case atStart => exact ⟨0, Nat.zero_le _, rfl, I1⟩
  case round =>
    obtain ⟨k, hk, rfl, KI⟩ := hrel
    by_cases hlt : k < n
    · have hltz : (k : Int) < (n : Int) := by omega
      have hk0 : (0 : Int) ≤ (k : Int) := by omega
      have hwk : IntKind.i64.wrap ((k : Int) + 1) = (k : Int) + 1 := by rw [IntKind.wrap_i64]; have := HN1.out; omega
      obtain ⟨r, s, l, hb, hL, hln⟩ := KI.out
      have hkS : k < S.length := by rw [HN.out]; exact hlt
      obtain ⟨a, rfl, hab, hsz, hjunk, hst0⟩ := HS.out k hkS
      have hst := hst0.bel (HBW.out.trans (hb.1.2.2.2.mono HBW.out.size)) (by rw [add_block]; exact hab)
      clear hst0 hjunk
      obtain ⟨o, ho⟩ : ∃ o, S[k]'hkS = o := ⟨_, rfl⟩
      rw [ho] at hst hsz
      clear ho
      obtain ⟨who, op, f, big, nn, cnt⟩ := o
      obtain ⟨t0, t1, t2, t3, t4, t5⟩ := hst
      dsimp only at t0 t1 t2 t3 t4 t5 hsz
      obtain ⟨X, hX⟩ : ∃ X, wr.heap.size = X := ⟨_, rfl⟩
      obtain ⟨W1, hW1⟩ : ∃ W1, wr.alloc (.cells #[.int .i64 who, .int .i64 op, .string f, .int .i64 big, .int .u64 nn, .int .i64 cnt] 29) = W1 := ⟨_, rfl⟩
      have hbx : Below wr.heap.size wr W1 := by rw [← hW1]; exact (Below.refl _ _).alloc (Nat.le_refl _) _
      have hz1 : X < W1.heap.size := by rw [← hW1, ← hX]; simp
      have hx1 : W1.heap[X]? = some (.cells (Stp.cells ⟨who, op, f, big, nn, cnt⟩) 29 (0, 0)) := by rw [← hW1, ← hX]; exact heap_alloc_new _ _
      have hXr : rr r (W.heap.size + 1) X = (0, 0) := hb.1.fresh (by omega)
      have hBX := box_at hx1
      dsimp only at hBX
      obtain ⟨b1, b2⟩ := hBX
      have HX1 := keep hx1
      have HXR := keep hXr
      have HB := keep (hb.below hbx)
      have HLs := keep hL
      have HLN := keep hln
      have HLT := keep hlt
      have HZ1 := keep hz1
      have HSZ := keep hsz
      obtain ⟨ao, cp, rfl, hao⟩ := ks_form hb.2.1
      obtain ⟨q, hq⟩ : ∃ q, l.length = q := ⟨_, rfl⟩
      have hql : q = ln s := by rw [← hq]; exact hL.2.2
      have hqd : decide ((1048576 : Int) ≤ (q : Int)) = false := decide_eq_false (by have := HN1.out; omega)
      have HQ := keep hq
      have HQL := keep hql
      have HAO := keep hao
      rw [hq] at HB ⊢
      clear hb hL hln hlt hbx hz1 hx1 hXr hsz hq hql hao hkS KI
      have moved : Kept (∀ {w' : World} {r' : Roles}, Fr W1 (rr r (W.heap.size + 1)) w' (rr r' (W.heap.size + 1)) → w'.cell? ⟨X, 2, none⟩ = some (.string f) ∧ X < w'.heap.size) := fun hf =>
        ⟨(box_at ((hf.2.2 X HZ1.out HXR.out).1.trans HX1.out)).2, Nat.lt_of_lt_of_le HZ1.out hf.2.1⟩
      cases htf : tol f with
      | true =>
        have mSh := short_any f W1
        rw [htf] at mSh
        have I4 : Kept (FsI h W x (k + 1) (.slice ao q cp) W1) := ⟨r, s, l, HB.out.more (by omega), HLs.out, by have := HLN.out; omega⟩
        go_wp2_with fail
        refine mSh.mono ?_
        rintro _ w' ⟨rfl, hw'⟩
        obtain rfl := hw'.symm
        clear mSh b1 b2 t0 t1 t2 t3 t4 t5
        go_wp2
        go_roundw
        case measure => simp [intOf]; have := HLT.out; omega
        case rel => exact ⟨k + 1, by have := HLT.out; omega, by go_num, I4⟩
      | false =>
        have hf1 := tol_le htf
        have mSh := short_any f W1
        rw [htf] at mSh
        have HF1 := keep hf1
        clear hf1 htf
        by_cases c0 : op = 0
        · subst c0
          cases hin : inB f l with
          | true =>
            have mH := hasl_any _ _ _ _ HB.out.2.1 f
            rw [hin] at mH

            obtain ⟨u, hu⟩ : ∃ u, lk s f = some u := by
              have := HLs.out.2.1 f
              rw [hin] at this
              cases hh : lk s f with
              | none => rw [hh] at this; cases this
              | some u => exact ⟨u, rfl⟩

            have mA := fadd_old hH HB.out.1.1 (by have := HN1.out; have := HLT.out; omega) f HF1.out u hu
            clear hu

            go_wp2_with fail
            refine mSh.mono ?_
            rintro _ w' ⟨rfl, hw'⟩
            obtain rfl := hw'.symm
            go_wp2_with fail
            refine mH.mono ?_
            rintro _ w' ⟨rfl, hw'⟩
            obtain rfl := hw'.symm
            clear mSh mH

            go_wp2_with fail
            refine mA.mono ?_
            rintro _ w2 ⟨rfl, r2, s2, q1, q2, q3⟩
            have I4 : Kept (FsI h W x (k + 1) (.slice ao q cp) w2) := ⟨r2, s2, l, (HB.out.op q1 q3).more (by omega), HLs.out.sam q2, by rw [q2.2]; have := HLN.out; omega⟩
            clear mA q1 q2 q3 b1 b2 t0 t1 t2 t3 t4 t5

            go_wp2
            go_roundw
            case measure => simp [intOf]; have := HLT.out; omega
            case rel => exact ⟨k + 1, by have := HLT.out; omega, by go_num, I4⟩
          | false =>
            have mH := hasl_any _ _ _ _ HB.out.2.1 f
            rw [hin] at mH

            have hu : lk s f = none := by
              have := HLs.out.2.1 f
              rw [hin] at this
              cases hh : lk s f with
              | none => rfl
              | some u => rw [hh] at this; cases this

            have mA := fadd_new hH HB.out.1.1 (by have := HN1.out; have := HLT.out; omega) f HF1.out hu (by have := HN1.out; have := HLT.out; have := HLN.out; omega)
            have HU := keep hu
            have HIN := keep hin
            clear hu

            go_wp2_with fail
            refine mSh.mono ?_
            rintro _ w' ⟨rfl, hw'⟩
            obtain rfl := hw'.symm
            go_wp2_with fail
            refine mH.mono ?_
            rintro _ w' ⟨rfl, hw'⟩
            obtain rfl := hw'.symm
            clear mSh mH

            go_wp2_with fail
            refine mA.mono ?_
            rintro _ w2 ⟨rfl, r2, s2, q1, q2, q3⟩
            have B2 := keep (HB.out.op q1 q3)
            obtain ⟨d2, hXl⟩ := moved.out q3
            have L2 := keep (HLs.out.add q2 HIN.out)
            have hln2 : ln s2 ≤ k + 1 := by rw [q2.2, HU.out]; have := HLN.out; simp; omega
            obtain ⟨g', cp', W3, hrun, hR, hs3, ho3, hat, hsame⟩ := push_txt f B2.out.2.1 B2.out.1.2.2.2.size (by rw [HQ.out]; have := HQL.out; have := HLN.out; have := HN1.out; have := HLT.out; omega)
            rw [HQ.out] at hrun hR
            have B3 := keep (B2.out.row (v' := .slice (some ⟨g', 0, none⟩) (q + 1) cp') (by omega) ho3 hsame hR (fun g hg => by cases hg; exact hat))
            have I4 : Kept (FsI h W x (k + 1) (.slice (some ⟨g', 0, none⟩) (q + 1) cp') W3) := ⟨r2, s2, _, B3.out, L2.out, hln2⟩
            have MA := keep hrun
            clear mA q1 q2 q3 b1 b2 t0 t1 t2 t3 t4 t5 hrun hR hs3 ho3 hat hsame hln2 hXl
            go_wp2_with (first | (show wpList _ _ _ ({ dst := some 76, op := Op.call { callee := Callee.builtin Builtin.append, args := _, argTypes := _ }, type := _, pos := _, after := _, guard := _ } :: _) _ _; refine wpL_app_run rfl (.tmp 72) (.tmp 75) 27 rfl _ _ _ rfl rfl MA.out ?_))
            go_roundw
            case measure => simp [intOf]; have := HLT.out; omega
            case rel => exact ⟨k + 1, by have := HLT.out; omega, by go_num, I4⟩
        · have c0b : (op == 0) = false := beq_eq_false_iff_ne.2 c0
          by_cases c1 : op = 1
          · subst c1
            cases hin : inB f l with
            | true =>
              have mH := hasl_any _ _ _ _ HB.out.2.1 f
              rw [hin] at mH

              obtain ⟨u, hu⟩ : ∃ u, lk s f = some u := by
                have := HLs.out.2.1 f
                rw [hin] at this
                cases hh : lk s f with
                | none => rw [hh] at this; cases this
                | some u => exact ⟨u, rfl⟩

              have mA := fadd_old hH HB.out.1.1 (by have := HN1.out; have := HLT.out; omega) f HF1.out u hu
              clear hu

              go_wp2_with fail
              refine mSh.mono ?_
              rintro _ w' ⟨rfl, hw'⟩
              obtain rfl := hw'.symm
              go_wp2_with fail
              refine mH.mono ?_
              rintro _ w' ⟨rfl, hw'⟩
              obtain rfl := hw'.symm
              clear mSh mH

              go_wp2_with fail
              refine mA.mono ?_
              rintro _ w2 ⟨rfl, r2, s2, q1, q2, q3⟩
              have I4 : Kept (FsI h W x (k + 1) (.slice ao q cp) w2) := ⟨r2, s2, l, (HB.out.op q1 q3).more (by omega), HLs.out.sam q2, by rw [q2.2]; have := HLN.out; omega⟩
              clear mA q1 q2 q3 b1 b2 t0 t1 t2 t3 t4 t5

              go_wp2
              go_roundw
              case measure => simp [intOf]; have := HLT.out; omega
              case rel => exact ⟨k + 1, by have := HLT.out; omega, by go_num, I4⟩
            | false =>
              have mH := hasl_any _ _ _ _ HB.out.2.1 f
              rw [hin] at mH

              have hu : lk s f = none := by
                have := HLs.out.2.1 f
                rw [hin] at this
                cases hh : lk s f with
                | none => rfl
                | some u => rw [hh] at this; cases this

              have mA := fadd_new hH HB.out.1.1 (by have := HN1.out; have := HLT.out; omega) f HF1.out hu (by have := HN1.out; have := HLT.out; have := HLN.out; omega)
              have HU := keep hu
              have HIN := keep hin
              clear hu

              go_wp2_with fail
              refine mSh.mono ?_
              rintro _ w' ⟨rfl, hw'⟩
              obtain rfl := hw'.symm
              go_wp2_with fail
              refine mH.mono ?_
              rintro _ w' ⟨rfl, hw'⟩
              obtain rfl := hw'.symm
              clear mSh mH

              go_wp2_with fail
              refine mA.mono ?_
              rintro _ w2 ⟨rfl, r2, s2, q1, q2, q3⟩
              have B2 := keep (HB.out.op q1 q3)
              obtain ⟨d2, hXl⟩ := moved.out q3
              have L2 := keep (HLs.out.add q2 HIN.out)
              have hln2 : ln s2 ≤ k + 1 := by rw [q2.2, HU.out]; have := HLN.out; simp; omega
              obtain ⟨g', cp', W3, hrun, hR, hs3, ho3, hat, hsame⟩ := push_txt f B2.out.2.1 B2.out.1.2.2.2.size (by rw [HQ.out]; have := HQL.out; have := HLN.out; have := HN1.out; have := HLT.out; omega)
              rw [HQ.out] at hrun hR
              have B3 := keep (B2.out.row (v' := .slice (some ⟨g', 0, none⟩) (q + 1) cp') (by omega) ho3 hsame hR (fun g hg => by cases hg; exact hat))
              have I4 : Kept (FsI h W x (k + 1) (.slice (some ⟨g', 0, none⟩) (q + 1) cp') W3) := ⟨r2, s2, _, B3.out, L2.out, hln2⟩
              have MA := keep hrun
              clear mA q1 q2 q3 b1 b2 t0 t1 t2 t3 t4 t5 hrun hR hs3 ho3 hat hsame hln2 hXl
              go_wp2_with (first | (show wpList _ _ _ ({ dst := some 76, op := Op.call { callee := Callee.builtin Builtin.append, args := _, argTypes := _ }, type := _, pos := _, after := _, guard := _ } :: _) _ _; refine wpL_app_run rfl (.tmp 72) (.tmp 75) 27 rfl _ _ _ rfl rfl MA.out ?_))
              go_roundw
              case measure => simp [intOf]; have := HLT.out; omega
              case rel => exact ⟨k + 1, by have := HLT.out; omega, by go_num, I4⟩
          · have c1b : (op == 1) = false := beq_eq_false_iff_ne.2 c1
            by_cases c2 : op = 2
            · subst c2
              cases hin : inB f l with
              | true =>
                have mH := hasl_any _ _ _ _ HB.out.2.1 f
                rw [hin] at mH

                obtain ⟨u, hu⟩ : ∃ u, lk s f = some u := by
                  have := HLs.out.2.1 f
                  rw [hin] at this
                  cases hh : lk s f with
                  | none => rw [hh] at this; cases this
                  | some u => exact ⟨u, rfl⟩

                have mA := fadd_old hH HB.out.1.1 (by have := HN1.out; have := HLT.out; omega) f HF1.out u hu
                clear hu

                go_wp2_with fail
                refine mSh.mono ?_
                rintro _ w' ⟨rfl, hw'⟩
                obtain rfl := hw'.symm
                go_wp2_with fail
                refine mH.mono ?_
                rintro _ w' ⟨rfl, hw'⟩
                obtain rfl := hw'.symm
                clear mSh mH

                go_wp2_with fail
                refine mA.mono ?_
                rintro _ w2 ⟨rfl, r2, s2, q1, q2, q3⟩
                have I4 : Kept (FsI h W x (k + 1) (.slice ao q cp) w2) := ⟨r2, s2, l, (HB.out.op q1 q3).more (by omega), HLs.out.sam q2, by rw [q2.2]; have := HLN.out; omega⟩
                clear mA q1 q2 q3 b1 b2 t0 t1 t2 t3 t4 t5

                go_wp2
                go_roundw
                case measure => simp [intOf]; have := HLT.out; omega
                case rel => exact ⟨k + 1, by have := HLT.out; omega, by go_num, I4⟩
              | false =>
                have mH := hasl_any _ _ _ _ HB.out.2.1 f
                rw [hin] at mH

                have hu : lk s f = none := by
                  have := HLs.out.2.1 f
                  rw [hin] at this
                  cases hh : lk s f with
                  | none => rfl
                  | some u => rw [hh] at this; cases this

                have mA := fadd_new hH HB.out.1.1 (by have := HN1.out; have := HLT.out; omega) f HF1.out hu (by have := HN1.out; have := HLT.out; have := HLN.out; omega)
                have HU := keep hu
                have HIN := keep hin
                clear hu

                go_wp2_with fail
                refine mSh.mono ?_
                rintro _ w' ⟨rfl, hw'⟩
                obtain rfl := hw'.symm
                go_wp2_with fail
                refine mH.mono ?_
                rintro _ w' ⟨rfl, hw'⟩
                obtain rfl := hw'.symm
                clear mSh mH

                go_wp2_with fail
                refine mA.mono ?_
                rintro _ w2 ⟨rfl, r2, s2, q1, q2, q3⟩
                have B2 := keep (HB.out.op q1 q3)
                obtain ⟨d2, hXl⟩ := moved.out q3
                have L2 := keep (HLs.out.add q2 HIN.out)
                have hln2 : ln s2 ≤ k + 1 := by rw [q2.2, HU.out]; have := HLN.out; simp; omega
                obtain ⟨g', cp', W3, hrun, hR, hs3, ho3, hat, hsame⟩ := push_txt f B2.out.2.1 B2.out.1.2.2.2.size (by rw [HQ.out]; have := HQL.out; have := HLN.out; have := HN1.out; have := HLT.out; omega)
                rw [HQ.out] at hrun hR
                have B3 := keep (B2.out.row (v' := .slice (some ⟨g', 0, none⟩) (q + 1) cp') (by omega) ho3 hsame hR (fun g hg => by cases hg; exact hat))
                have I4 : Kept (FsI h W x (k + 1) (.slice (some ⟨g', 0, none⟩) (q + 1) cp') W3) := ⟨r2, s2, _, B3.out, L2.out, hln2⟩
                have MA := keep hrun
                clear mA q1 q2 q3 b1 b2 t0 t1 t2 t3 t4 t5 hrun hR hs3 ho3 hat hsame hln2 hXl
                go_wp2_with (first | (show wpList _ _ _ ({ dst := some 76, op := Op.call { callee := Callee.builtin Builtin.append, args := _, argTypes := _ }, type := _, pos := _, after := _, guard := _ } :: _) _ _; refine wpL_app_run rfl (.tmp 72) (.tmp 75) 27 rfl _ _ _ rfl rfl MA.out ?_))
                go_roundw
                case measure => simp [intOf]; have := HLT.out; omega
                case rel => exact ⟨k + 1, by have := HLT.out; omega, by go_num, I4⟩
            · have c2b : (op == 2) = false := beq_eq_false_iff_ne.2 c2
              by_cases c3 : op = 3
              · subst c3
                cases hin : inB f l with
                | true =>
                  have mH := hasl_any _ _ _ _ HB.out.2.1 f
                  rw [hin] at mH

                  have mD := fdel_any hH HB.out.1.1 (by have := HN1.out; have := HLT.out; omega) f HSZ.out
                  rw [← HLs.out.2.1 f, hin] at mD

                  go_wp2_with fail
                  refine mSh.mono ?_
                  rintro _ w' ⟨rfl, hw'⟩
                  obtain rfl := hw'.symm
                  go_wp2_with fail
                  refine mH.mono ?_
                  rintro _ w' ⟨rfl, hw'⟩
                  obtain rfl := hw'.symm
                  clear mSh mH

                  go_wp2_with fail
                  refine mD.mono ?_
                  rintro _ w2 ⟨rfl, r2, s2, q1, q2, q3⟩
                  have B2 := keep (HB.out.op q1 q3)
                  obtain ⟨d2, hXl⟩ := moved.out q3
                  have L2 := keep (HLs.out.del q2)
                  have hln2 : ln s2 ≤ k + 1 := by rw [q2.2]; have := HLN.out; omega
                  have HLN2 := keep hln2
                  have hqn : q ≤ 1048576 := by have := HQL.out; have := HLN.out; have := HN1.out; have := HLT.out; omega
                  have HQN := keep hqn
                  have HD2 := keep d2
                  have HXL := keep hXl
                  clear mD q1 q2 q3 b1 b2 t0 t1 t2 t3 t4 t5 hln2 hqn d2 hXl
                  go_wp2
                  go_loopw [12, 88] (fun m i wq => ∃ j : Nat, j ≤ q ∧ i = .int .i64 j ∧ Kept (Ks w2.heap.size wq m ((l.take j).filter (fun x => decide (x ≠ f)))) ∧ Kept (Below w2.heap.size w2 wq)) (fun _ i _ => q - (intOf i).toNat)
                  case atStart => exact ⟨0, Nat.zero_le _, rfl, ks_nil _ _, Below.refl _ _⟩
                  case round =>
                    obtain ⟨j, hj, rfl, KR, KB⟩ := hrel
                    by_cases hjl : j < q
                    · have hjz : (j : Int) < (q : Int) := by omega
                      have hj0 : (0 : Int) ≤ (j : Int) := by omega
                      have hwj : IntKind.i64.wrap ((j : Int) + 1) = (j : Int) + 1 := by rw [IntKind.wrap_i64]; have := HQN.out; omega
                      obtain ⟨e, he⟩ : ∃ e, l[j]? = some e := ⟨_, List.getElem?_eq_getElem (by rw [HQ.out]; exact hjl)⟩
                      obtain ⟨g, rfl, hg⟩ : ∃ g, ao = some ⟨g, 0, none⟩ ∧ g < w2.heap.size := by
                        have hR2 := B2.out.2.1
                        rcases HAO.out with h | ⟨g, h, _⟩
                        · rw [h] at he; simp at he
                        · subst h; exact ⟨g, rfl, own_lt hR2 rfl⟩
                      have c0 := (KB.out.cell (p := ⟨g, j, none⟩) hg).trans (B2.out.2.1.at he)
                      have d2 := (KB.out.cell (p := ⟨X, 2, none⟩) HXL.out).trans HD2.out
                      have hft := filter_take (f := f) he
                      by_cases hef : e = f
                      · rw [if_pos hef, List.append_nil] at hft
                        have HFT := keep hft
                        subst hef
                        clear he hft hg
                        go_wp2
                        go_roundw
                        case measure => simp [intOf]; omega
                        case rel => exact ⟨j + 1, by omega, by go_num, by rw [HFT.out]; exact KR, KB⟩
                      · rw [if_neg hef] at hft
                        have hefb : (e.toList == f.toList) = false := beq_eq_false_iff_ne.2 (fun h => hef (bytes_eq h))
                        have HFT := keep hft
                        have hfl : ((l.take j).filter (fun x => decide (x ≠ f))).length ≤ 8000000000000 := by
                          have h1 := List.length_filter_le (fun x => decide (x ≠ f)) (l.take j)
                          rw [List.length_take] at h1
                          have := HQN.out
                          omega
                        obtain ⟨ao', cp', rfl, _⟩ := ks_form KR.out
                        obtain ⟨g', cp2, W3, hrun, hR, hs3, ho3, hat, hsame⟩ := push_txt e KR.out KB.out.size hfl
                        have hb3 : Below w2.heap.size w2 W3 := KB.out.trans ⟨ho3.1, ho3.2.1, ho3.2.2, by omega, fun i hi => hsame i (by have := KB.out.size; omega) (fun e => by have := (World.ownsRow.lt KR.out i e).1; omega)⟩
                        have MA := keep hrun
                        have HR := keep hR
                        have HB3 := keep hb3
                        obtain ⟨mm, hmm⟩ : ∃ mm, ((l.take j).filter (fun x => decide (x ≠ f))).length = mm := ⟨_, rfl⟩
                        rw [hmm] at MA HR ⊢
                        clear he hft hg hef hrun hR hs3 ho3 hat hsame hb3 hfl hmm
                        go_wp2_with (first | (show wpList _ _ _ ({ dst := some 99, op := Op.call { callee := Callee.builtin Builtin.append, args := _, argTypes := _ }, type := _, pos := _, after := _, guard := _ } :: _) _ _; refine wpL_app_run rfl (.tmp 96) (.tmp 98) 27 rfl _ _ _ rfl rfl MA.out ?_))
                        go_roundw
                        case measure => simp [intOf]; omega
                        case rel => exact ⟨j + 1, by omega, by go_num, by rw [HFT.out]; exact HR, HB3⟩
                    · have hjz : ¬ (j : Int) < (q : Int) := by omega
                      obtain rfl : j = q := by omega
                      rw [List.take_of_length_le (by rw [HQ.out]; exact Nat.le_refl _)] at KR
                      obtain ⟨ao', cp', rfl, _⟩ := ks_form KR.out
                      have I4 : Kept (FsI h W x (k + 1) (.slice ao' (l.filter (fun x => decide (x ≠ f))).length cp') wr) := ⟨r2, s2, _, (B2.out.fresh KB.out KR.out).more (by omega), L2.out, HLN2.out⟩
                      obtain ⟨mm, hmm⟩ : ∃ mm, (l.filter (fun x => decide (x ≠ f))).length = mm := ⟨_, rfl⟩
                      rw [hmm] at I4 ⊢
                      clear hmm KR KB L2 HLN2
                      go_wp2
                      go_roundw
                      case measure => simp [intOf]; have := HLT.out; omega
                      case rel => exact ⟨k + 1, by have := HLT.out; omega, by go_num, I4⟩
                | false =>
                  have mH := hasl_any _ _ _ _ HB.out.2.1 f
                  rw [hin] at mH

                  have mD := fdel_any hH HB.out.1.1 (by have := HN1.out; have := HLT.out; omega) f HSZ.out
                  rw [← HLs.out.2.1 f, hin] at mD

                  go_wp2_with fail
                  refine mSh.mono ?_
                  rintro _ w' ⟨rfl, hw'⟩
                  obtain rfl := hw'.symm
                  go_wp2_with fail
                  refine mH.mono ?_
                  rintro _ w' ⟨rfl, hw'⟩
                  obtain rfl := hw'.symm
                  clear mSh mH

                  go_wp2_with fail
                  refine mD.mono ?_
                  rintro _ w2 ⟨rfl, r2, s2, q1, q2, q3⟩
                  have B2 := keep (HB.out.op q1 q3)
                  obtain ⟨d2, hXl⟩ := moved.out q3
                  have L2 := keep (HLs.out.del q2)
                  have hln2 : ln s2 ≤ k + 1 := by rw [q2.2]; have := HLN.out; omega
                  have HLN2 := keep hln2
                  have hqn : q ≤ 1048576 := by have := HQL.out; have := HLN.out; have := HN1.out; have := HLT.out; omega
                  have HQN := keep hqn
                  have HD2 := keep d2
                  have HXL := keep hXl
                  clear mD q1 q2 q3 b1 b2 t0 t1 t2 t3 t4 t5 hln2 hqn d2 hXl
                  go_wp2
                  go_loopw [12, 88] (fun m i wq => ∃ j : Nat, j ≤ q ∧ i = .int .i64 j ∧ Kept (Ks w2.heap.size wq m ((l.take j).filter (fun x => decide (x ≠ f)))) ∧ Kept (Below w2.heap.size w2 wq)) (fun _ i _ => q - (intOf i).toNat)
                  case atStart => exact ⟨0, Nat.zero_le _, rfl, ks_nil _ _, Below.refl _ _⟩
                  case round =>
                    obtain ⟨j, hj, rfl, KR, KB⟩ := hrel
                    by_cases hjl : j < q
                    · have hjz : (j : Int) < (q : Int) := by omega
                      have hj0 : (0 : Int) ≤ (j : Int) := by omega
                      have hwj : IntKind.i64.wrap ((j : Int) + 1) = (j : Int) + 1 := by rw [IntKind.wrap_i64]; have := HQN.out; omega
                      obtain ⟨e, he⟩ : ∃ e, l[j]? = some e := ⟨_, List.getElem?_eq_getElem (by rw [HQ.out]; exact hjl)⟩
                      obtain ⟨g, rfl, hg⟩ : ∃ g, ao = some ⟨g, 0, none⟩ ∧ g < w2.heap.size := by
                        have hR2 := B2.out.2.1
                        rcases HAO.out with h | ⟨g, h, _⟩
                        · rw [h] at he; simp at he
                        · subst h; exact ⟨g, rfl, own_lt hR2 rfl⟩
                      have c0 := (KB.out.cell (p := ⟨g, j, none⟩) hg).trans (B2.out.2.1.at he)
                      have d2 := (KB.out.cell (p := ⟨X, 2, none⟩) HXL.out).trans HD2.out
                      have hft := filter_take (f := f) he
                      by_cases hef : e = f
                      · rw [if_pos hef, List.append_nil] at hft
                        have HFT := keep hft
                        subst hef
                        clear he hft hg
                        go_wp2
                        go_roundw
                        case measure => simp [intOf]; omega
                        case rel => exact ⟨j + 1, by omega, by go_num, by rw [HFT.out]; exact KR, KB⟩
                      · rw [if_neg hef] at hft
                        have hefb : (e.toList == f.toList) = false := beq_eq_false_iff_ne.2 (fun h => hef (bytes_eq h))
                        have HFT := keep hft
                        have hfl : ((l.take j).filter (fun x => decide (x ≠ f))).length ≤ 8000000000000 := by
                          have h1 := List.length_filter_le (fun x => decide (x ≠ f)) (l.take j)
                          rw [List.length_take] at h1
                          have := HQN.out
                          omega
                        obtain ⟨ao', cp', rfl, _⟩ := ks_form KR.out
                        obtain ⟨g', cp2, W3, hrun, hR, hs3, ho3, hat, hsame⟩ := push_txt e KR.out KB.out.size hfl
                        have hb3 : Below w2.heap.size w2 W3 := KB.out.trans ⟨ho3.1, ho3.2.1, ho3.2.2, by omega, fun i hi => hsame i (by have := KB.out.size; omega) (fun e => by have := (World.ownsRow.lt KR.out i e).1; omega)⟩
                        have MA := keep hrun
                        have HR := keep hR
                        have HB3 := keep hb3
                        obtain ⟨mm, hmm⟩ : ∃ mm, ((l.take j).filter (fun x => decide (x ≠ f))).length = mm := ⟨_, rfl⟩
                        rw [hmm] at MA HR ⊢
                        clear he hft hg hef hrun hR hs3 ho3 hat hsame hb3 hfl hmm
                        go_wp2_with (first | (show wpList _ _ _ ({ dst := some 99, op := Op.call { callee := Callee.builtin Builtin.append, args := _, argTypes := _ }, type := _, pos := _, after := _, guard := _ } :: _) _ _; refine wpL_app_run rfl (.tmp 96) (.tmp 98) 27 rfl _ _ _ rfl rfl MA.out ?_))
                        go_roundw
                        case measure => simp [intOf]; omega
                        case rel => exact ⟨j + 1, by omega, by go_num, by rw [HFT.out]; exact HR, HB3⟩
                    · have hjz : ¬ (j : Int) < (q : Int) := by omega
                      obtain rfl : j = q := by omega
                      rw [List.take_of_length_le (by rw [HQ.out]; exact Nat.le_refl _)] at KR
                      obtain ⟨ao', cp', rfl, _⟩ := ks_form KR.out
                      have I4 : Kept (FsI h W x (k + 1) (.slice ao' (l.filter (fun x => decide (x ≠ f))).length cp') wr) := ⟨r2, s2, _, (B2.out.fresh KB.out KR.out).more (by omega), L2.out, HLN2.out⟩
                      obtain ⟨mm, hmm⟩ : ∃ mm, (l.filter (fun x => decide (x ≠ f))).length = mm := ⟨_, rfl⟩
                      rw [hmm] at I4 ⊢
                      clear hmm KR KB L2 HLN2
                      go_wp2
                      go_roundw
                      case measure => simp [intOf]; have := HLT.out; omega
                      case rel => exact ⟨k + 1, by have := HLT.out; omega, by go_num, I4⟩
              · have c3b : (op == 3) = false := beq_eq_false_iff_ne.2 c3
                by_cases c4 : op = 4
                · subst c4
                  cases hin : inB f l with
                  | true =>
                    have mH := hasl_any _ _ _ _ HB.out.2.1 f
                    rw [hin] at mH

                    have mD := fdel_any hH HB.out.1.1 (by have := HN1.out; have := HLT.out; omega) f HSZ.out
                    rw [← HLs.out.2.1 f, hin] at mD

                    go_wp2_with fail
                    refine mSh.mono ?_
                    rintro _ w' ⟨rfl, hw'⟩
                    obtain rfl := hw'.symm
                    go_wp2_with fail
                    refine mH.mono ?_
                    rintro _ w' ⟨rfl, hw'⟩
                    obtain rfl := hw'.symm
                    clear mSh mH

                    go_wp2_with fail
                    refine mD.mono ?_
                    rintro _ w2 ⟨rfl, r2, s2, q1, q2, q3⟩
                    have B2 := keep (HB.out.op q1 q3)
                    obtain ⟨d2, hXl⟩ := moved.out q3
                    have L2 := keep (HLs.out.del q2)
                    have hln2 : ln s2 ≤ k + 1 := by rw [q2.2]; have := HLN.out; omega
                    have HLN2 := keep hln2
                    have hqn : q ≤ 1048576 := by have := HQL.out; have := HLN.out; have := HN1.out; have := HLT.out; omega
                    have HQN := keep hqn
                    have HD2 := keep d2
                    have HXL := keep hXl
                    clear mD q1 q2 q3 b1 b2 t0 t1 t2 t3 t4 t5 hln2 hqn d2 hXl
                    go_wp2
                    go_loopw [12, 88] (fun m i wq => ∃ j : Nat, j ≤ q ∧ i = .int .i64 j ∧ Kept (Ks w2.heap.size wq m ((l.take j).filter (fun x => decide (x ≠ f)))) ∧ Kept (Below w2.heap.size w2 wq)) (fun _ i _ => q - (intOf i).toNat)
                    case atStart => exact ⟨0, Nat.zero_le _, rfl, ks_nil _ _, Below.refl _ _⟩
                    case round =>
                      obtain ⟨j, hj, rfl, KR, KB⟩ := hrel
                      by_cases hjl : j < q
                      · have hjz : (j : Int) < (q : Int) := by omega
                        have hj0 : (0 : Int) ≤ (j : Int) := by omega
                        have hwj : IntKind.i64.wrap ((j : Int) + 1) = (j : Int) + 1 := by rw [IntKind.wrap_i64]; have := HQN.out; omega
                        obtain ⟨e, he⟩ : ∃ e, l[j]? = some e := ⟨_, List.getElem?_eq_getElem (by rw [HQ.out]; exact hjl)⟩
                        obtain ⟨g, rfl, hg⟩ : ∃ g, ao = some ⟨g, 0, none⟩ ∧ g < w2.heap.size := by
                          have hR2 := B2.out.2.1
                          rcases HAO.out with h | ⟨g, h, _⟩
                          · rw [h] at he; simp at he
                          · subst h; exact ⟨g, rfl, own_lt hR2 rfl⟩
                        have c0 := (KB.out.cell (p := ⟨g, j, none⟩) hg).trans (B2.out.2.1.at he)
                        have d2 := (KB.out.cell (p := ⟨X, 2, none⟩) HXL.out).trans HD2.out
                        have hft := filter_take (f := f) he
                        by_cases hef : e = f
                        · rw [if_pos hef, List.append_nil] at hft
                          have HFT := keep hft
                          subst hef
                          clear he hft hg
                          go_wp2
                          go_roundw
                          case measure => simp [intOf]; omega
                          case rel => exact ⟨j + 1, by omega, by go_num, by rw [HFT.out]; exact KR, KB⟩
                        · rw [if_neg hef] at hft
                          have hefb : (e.toList == f.toList) = false := beq_eq_false_iff_ne.2 (fun h => hef (bytes_eq h))
                          have HFT := keep hft
                          have hfl : ((l.take j).filter (fun x => decide (x ≠ f))).length ≤ 8000000000000 := by
                            have h1 := List.length_filter_le (fun x => decide (x ≠ f)) (l.take j)
                            rw [List.length_take] at h1
                            have := HQN.out
                            omega
                          obtain ⟨ao', cp', rfl, _⟩ := ks_form KR.out
                          obtain ⟨g', cp2, W3, hrun, hR, hs3, ho3, hat, hsame⟩ := push_txt e KR.out KB.out.size hfl
                          have hb3 : Below w2.heap.size w2 W3 := KB.out.trans ⟨ho3.1, ho3.2.1, ho3.2.2, by omega, fun i hi => hsame i (by have := KB.out.size; omega) (fun e => by have := (World.ownsRow.lt KR.out i e).1; omega)⟩
                          have MA := keep hrun
                          have HR := keep hR
                          have HB3 := keep hb3
                          obtain ⟨mm, hmm⟩ : ∃ mm, ((l.take j).filter (fun x => decide (x ≠ f))).length = mm := ⟨_, rfl⟩
                          rw [hmm] at MA HR ⊢
                          clear he hft hg hef hrun hR hs3 ho3 hat hsame hb3 hfl hmm
                          go_wp2_with (first | (show wpList _ _ _ ({ dst := some 99, op := Op.call { callee := Callee.builtin Builtin.append, args := _, argTypes := _ }, type := _, pos := _, after := _, guard := _ } :: _) _ _; refine wpL_app_run rfl (.tmp 96) (.tmp 98) 27 rfl _ _ _ rfl rfl MA.out ?_))
                          go_roundw
                          case measure => simp [intOf]; omega
                          case rel => exact ⟨j + 1, by omega, by go_num, by rw [HFT.out]; exact HR, HB3⟩
                      · have hjz : ¬ (j : Int) < (q : Int) := by omega
                        obtain rfl : j = q := by omega
                        rw [List.take_of_length_le (by rw [HQ.out]; exact Nat.le_refl _)] at KR
                        obtain ⟨ao', cp', rfl, _⟩ := ks_form KR.out
                        have I4 : Kept (FsI h W x (k + 1) (.slice ao' (l.filter (fun x => decide (x ≠ f))).length cp') wr) := ⟨r2, s2, _, (B2.out.fresh KB.out KR.out).more (by omega), L2.out, HLN2.out⟩
                        obtain ⟨mm, hmm⟩ : ∃ mm, (l.filter (fun x => decide (x ≠ f))).length = mm := ⟨_, rfl⟩
                        rw [hmm] at I4 ⊢
                        clear hmm KR KB L2 HLN2
                        go_wp2
                        go_roundw
                        case measure => simp [intOf]; have := HLT.out; omega
                        case rel => exact ⟨k + 1, by have := HLT.out; omega, by go_num, I4⟩
                  | false =>
                    have mH := hasl_any _ _ _ _ HB.out.2.1 f
                    rw [hin] at mH

                    have mD := fdel_any hH HB.out.1.1 (by have := HN1.out; have := HLT.out; omega) f HSZ.out
                    rw [← HLs.out.2.1 f, hin] at mD

                    go_wp2_with fail
                    refine mSh.mono ?_
                    rintro _ w' ⟨rfl, hw'⟩
                    obtain rfl := hw'.symm
                    go_wp2_with fail
                    refine mH.mono ?_
                    rintro _ w' ⟨rfl, hw'⟩
                    obtain rfl := hw'.symm
                    clear mSh mH

                    go_wp2_with fail
                    refine mD.mono ?_
                    rintro _ w2 ⟨rfl, r2, s2, q1, q2, q3⟩
                    have B2 := keep (HB.out.op q1 q3)
                    obtain ⟨d2, hXl⟩ := moved.out q3
                    have L2 := keep (HLs.out.del q2)
                    have hln2 : ln s2 ≤ k + 1 := by rw [q2.2]; have := HLN.out; omega
                    have HLN2 := keep hln2
                    have hqn : q ≤ 1048576 := by have := HQL.out; have := HLN.out; have := HN1.out; have := HLT.out; omega
                    have HQN := keep hqn
                    have HD2 := keep d2
                    have HXL := keep hXl
                    clear mD q1 q2 q3 b1 b2 t0 t1 t2 t3 t4 t5 hln2 hqn d2 hXl
                    go_wp2
                    go_loopw [12, 88] (fun m i wq => ∃ j : Nat, j ≤ q ∧ i = .int .i64 j ∧ Kept (Ks w2.heap.size wq m ((l.take j).filter (fun x => decide (x ≠ f)))) ∧ Kept (Below w2.heap.size w2 wq)) (fun _ i _ => q - (intOf i).toNat)
                    case atStart => exact ⟨0, Nat.zero_le _, rfl, ks_nil _ _, Below.refl _ _⟩
                    case round =>
                      obtain ⟨j, hj, rfl, KR, KB⟩ := hrel
                      by_cases hjl : j < q
                      · have hjz : (j : Int) < (q : Int) := by omega
                        have hj0 : (0 : Int) ≤ (j : Int) := by omega
                        have hwj : IntKind.i64.wrap ((j : Int) + 1) = (j : Int) + 1 := by rw [IntKind.wrap_i64]; have := HQN.out; omega
                        obtain ⟨e, he⟩ : ∃ e, l[j]? = some e := ⟨_, List.getElem?_eq_getElem (by rw [HQ.out]; exact hjl)⟩
                        obtain ⟨g, rfl, hg⟩ : ∃ g, ao = some ⟨g, 0, none⟩ ∧ g < w2.heap.size := by
                          have hR2 := B2.out.2.1
                          rcases HAO.out with h | ⟨g, h, _⟩
                          · rw [h] at he; simp at he
                          · subst h; exact ⟨g, rfl, own_lt hR2 rfl⟩
                        have c0 := (KB.out.cell (p := ⟨g, j, none⟩) hg).trans (B2.out.2.1.at he)
                        have d2 := (KB.out.cell (p := ⟨X, 2, none⟩) HXL.out).trans HD2.out
                        have hft := filter_take (f := f) he
                        by_cases hef : e = f
                        · rw [if_pos hef, List.append_nil] at hft
                          have HFT := keep hft
                          subst hef
                          clear he hft hg
                          go_wp2
                          go_roundw
                          case measure => simp [intOf]; omega
                          case rel => exact ⟨j + 1, by omega, by go_num, by rw [HFT.out]; exact KR, KB⟩
                        · rw [if_neg hef] at hft
                          have hefb : (e.toList == f.toList) = false := beq_eq_false_iff_ne.2 (fun h => hef (bytes_eq h))
                          have HFT := keep hft
                          have hfl : ((l.take j).filter (fun x => decide (x ≠ f))).length ≤ 8000000000000 := by
                            have h1 := List.length_filter_le (fun x => decide (x ≠ f)) (l.take j)
                            rw [List.length_take] at h1
                            have := HQN.out
                            omega
                          obtain ⟨ao', cp', rfl, _⟩ := ks_form KR.out
                          obtain ⟨g', cp2, W3, hrun, hR, hs3, ho3, hat, hsame⟩ := push_txt e KR.out KB.out.size hfl
                          have hb3 : Below w2.heap.size w2 W3 := KB.out.trans ⟨ho3.1, ho3.2.1, ho3.2.2, by omega, fun i hi => hsame i (by have := KB.out.size; omega) (fun e => by have := (World.ownsRow.lt KR.out i e).1; omega)⟩
                          have MA := keep hrun
                          have HR := keep hR
                          have HB3 := keep hb3
                          obtain ⟨mm, hmm⟩ : ∃ mm, ((l.take j).filter (fun x => decide (x ≠ f))).length = mm := ⟨_, rfl⟩
                          rw [hmm] at MA HR ⊢
                          clear he hft hg hef hrun hR hs3 ho3 hat hsame hb3 hfl hmm
                          go_wp2_with (first | (show wpList _ _ _ ({ dst := some 99, op := Op.call { callee := Callee.builtin Builtin.append, args := _, argTypes := _ }, type := _, pos := _, after := _, guard := _ } :: _) _ _; refine wpL_app_run rfl (.tmp 96) (.tmp 98) 27 rfl _ _ _ rfl rfl MA.out ?_))
                          go_roundw
                          case measure => simp [intOf]; omega
                          case rel => exact ⟨j + 1, by omega, by go_num, by rw [HFT.out]; exact HR, HB3⟩
                      · have hjz : ¬ (j : Int) < (q : Int) := by omega
                        obtain rfl : j = q := by omega
                        rw [List.take_of_length_le (by rw [HQ.out]; exact Nat.le_refl _)] at KR
                        obtain ⟨ao', cp', rfl, _⟩ := ks_form KR.out
                        have I4 : Kept (FsI h W x (k + 1) (.slice ao' (l.filter (fun x => decide (x ≠ f))).length cp') wr) := ⟨r2, s2, _, (B2.out.fresh KB.out KR.out).more (by omega), L2.out, HLN2.out⟩
                        obtain ⟨mm, hmm⟩ : ∃ mm, (l.filter (fun x => decide (x ≠ f))).length = mm := ⟨_, rfl⟩
                        rw [hmm] at I4 ⊢
                        clear hmm KR KB L2 HLN2
                        go_wp2
                        go_roundw
                        case measure => simp [intOf]; have := HLT.out; omega
                        case rel => exact ⟨k + 1, by have := HLT.out; omega, by go_num, I4⟩
                · have c4b : (op == 4) = false := beq_eq_false_iff_ne.2 c4
                  cases hin : inB f l with
                  | true =>
                    have mH := hasl_any _ _ _ _ HB.out.2.1 f
                    rw [hin] at mH

                    have mG := fhas_any hH HB.out.1.1 (by have := HN1.out; have := HLT.out; omega) f HSZ.out
                    rw [← HLs.out.2.1 f, hin] at mG

                    go_wp2_with fail
                    refine mSh.mono ?_
                    rintro _ w' ⟨rfl, hw'⟩
                    obtain rfl := hw'.symm
                    go_wp2_with fail
                    refine mH.mono ?_
                    rintro _ w' ⟨rfl, hw'⟩
                    obtain rfl := hw'.symm
                    clear mSh mH

                    go_wp2_with fail
                    refine mG.mono ?_
                    rintro _ w2 ⟨rfl, r2, s2, q1, q2, q3⟩
                    have I4 : Kept (FsI h W x (k + 1) (.slice ao q cp) w2) := ⟨r2, s2, l, (HB.out.op q1 q3).more (by omega), HLs.out.sam q2, by rw [q2.2]; have := HLN.out; omega⟩
                    clear mG q1 q2 q3 b1 b2 t0 t1 t2 t3 t4 t5

                    go_wp2
                    go_roundw
                    case measure => simp [intOf]; have := HLT.out; omega
                    case rel => exact ⟨k + 1, by have := HLT.out; omega, by go_num, I4⟩
                  | false =>
                    have mH := hasl_any _ _ _ _ HB.out.2.1 f
                    rw [hin] at mH

                    have mG := fhas_any hH HB.out.1.1 (by have := HN1.out; have := HLT.out; omega) f HSZ.out
                    rw [← HLs.out.2.1 f, hin] at mG

                    go_wp2_with fail
                    refine mSh.mono ?_
                    rintro _ w' ⟨rfl, hw'⟩
                    obtain rfl := hw'.symm
                    go_wp2_with fail
                    refine mH.mono ?_
                    rintro _ w' ⟨rfl, hw'⟩
                    obtain rfl := hw'.symm
                    clear mSh mH

                    go_wp2_with fail
                    refine mG.mono ?_
                    rintro _ w2 ⟨rfl, r2, s2, q1, q2, q3⟩
                    have I4 : Kept (FsI h W x (k + 1) (.slice ao q cp) w2) := ⟨r2, s2, l, (HB.out.op q1 q3).more (by omega), HLs.out.sam q2, by rw [q2.2]; have := HLN.out; omega⟩
                    clear mG q1 q2 q3 b1 b2 t0 t1 t2 t3 t4 t5

                    go_wp2
                    go_roundw
                    case measure => simp [intOf]; have := HLT.out; omega
                    case rel => exact ⟨k + 1, by have := HLT.out; omega, by go_num, I4⟩
    · have hltz : ¬ (k : Int) < (n : Int) := by omega
      obtain rfl : k = n := by omega
      obtain ⟨r, s, l, hb, hL, hln⟩ := KI.out
      have mM := fmembers_any wr r (W.heap.size + 1) W.heap.size s hb.1.1 (by have := HN1.out; omega)
      obtain ⟨ao, cp, rfl, hao⟩ := ks_form hb.2.1
      obtain ⟨q, hq⟩ : ∃ q, l.length = q := ⟨_, rfl⟩
      have HB := keep hb
      have HLs := keep hL
      have HQ := keep hq
      have HLN := keep hln
      rw [hq]
      clear hb hL hln hao hq KI
      go_wp2_with fail
      refine mM.mono ?_
      rintro _ w5 ⟨v5, L, rfl, hLs, hP, hb5⟩
      obtain ⟨g5, rfl, hg5, hg5'⟩ := hP.form
      have hI := HB.out.1.1.1.2.1
      have hLp : L.Perm l := hLs.1.trans (HLs.out.perm hI).symm
      have hLq : L.length = q := by rw [hLp.length_eq]; exact HQ.out
      have F5 : F2 h k W w5 r x s (.slice ao l.length cp) l (.slice (some ⟨g5, 0, none⟩) L.length L.length) L := ⟨HB.out.below hb5, (ks_prs hP).more HB.out.1.2.2.2.size, fun g hg => by cases hg; exact HB.out.1.fresh hg5'⟩
      have hcb : csk L ≤ 1099536793600 := by rw [csk_perm hLs.1, ← cst_kys]; exact HB.out.1.1.2.1.cst hI
      have hq1 : q ≤ 1048576 := by have := HLN.out; have := HN1.out; have := HLs.out.2.2; have := HQ.out; omega
      rw [HQ.out, hLq] at F5
      rw [hLq]
      have HF5 := keep F5
      have HLS := keep hLs
      have HLP := keep hLp
      have HLQ := keep hLq
      have HCB := keep hcb
      have HQ1 := keep hq1
      clear mM hP hLs hLp hLq hcb hI hb5 hg5 hg5' F5 hq1
      go_wp2
      go_loopw [16, 107] (fun c i wr => ∃ (j : Nat) (r' : Roles) (s' : Sx), j ≤ q ∧ i = .int .i64 j ∧ c = .int .i64 ((csk (L.take j) : Nat) : Int) ∧ Kept (F2 h k W wr r' x s' (.slice ao q cp) l (.slice (some ⟨g5, 0, none⟩) q q) L) ∧ Kept (Samd s s')) (fun _ i _ => q - (intOf i).toNat)
      case atStart => exact ⟨0, r, s, Nat.zero_le _, rfl, rfl, HF5, ⟨fun _ => rfl, rfl⟩⟩
      case round =>
        obtain ⟨j, r', s', hj, rfl, rfl, KF, KS⟩ := hrel
        by_cases hjl : j < q
        · have hjz : (j : Int) < (q : Int) := by omega
          have hj0 : (0 : Int) ≤ (j : Int) := by omega
          have hwj : IntKind.i64.wrap ((j : Int) + 1) = (j : Int) + 1 := by rw [IntKind.wrap_i64]; have := HQ1.out; omega
          obtain ⟨e, he⟩ : ∃ e, L[j]? = some e := ⟨_, List.getElem?_eq_getElem (by rw [HLQ.out]; exact hjl)⟩
          have hel : e ∈ l := HLP.out.subset (List.mem_of_getElem? he)
          have hin : inB e l = true := (inB_iff _ _).2 hel
          have mH := hasl_any _ _ _ _ KF.out.1.2.1 e
          rw [hin] at mH
          have hes : (lk s' e).isSome = true := by rw [KS.out.1 e, ← HLs.out.2.1 e]; exact hin
          have hesz : e.size ≤ 1048576 := by
            cases hh : lk s' e with
            | none => rw [hh] at hes; cases hes
            | some u => exact KF.out.1.1.1.2.1.1 e u hh
          have mG := fhas_any hH KF.out.1.1.1 (by have := HN1.out; omega) e (by unfold maxLen; omega)
          rw [hes] at mG
          have z0 := KF.out.2.1.at he
          have hcs : csk (L.take (j + 1)) = csk (L.take j) + (24 + e.size) := by
            obtain ⟨hjj, hee⟩ := List.getElem?_eq_some_iff.1 he
            rw [List.take_succ_eq_append_getElem hjj, hee]
            unfold csk
            rw [List.map_append, List.sum_append]
            simp
          have hcle : csk (L.take (j + 1)) ≤ 1099536793600 := by
            have hc1 : csk (L.take (j + 1)) + csk (L.drop (j + 1)) = csk L := by
              unfold csk
              rw [← List.sum_append, ← List.map_append, List.take_append_drop]
            have := HCB.out
            omega
          obtain ⟨C0, hC0⟩ : ∃ C0 : Int, ((csk (L.take j) : Nat) : Int) = C0 := ⟨_, rfl⟩
          have hw1 : IntKind.i64.wrap (24 + (e.size : Int)) = 24 + (e.size : Int) := by rw [IntKind.wrap_i64]; omega
          have hw3 : IntKind.i64.wrap (C0 + (24 + (e.size : Int))) = C0 + (24 + (e.size : Int)) := by rw [IntKind.wrap_i64]; omega
          have hC1 : C0 + (24 + (e.size : Int)) = ((csk (L.take (j + 1)) : Nat) : Int) := by omega
          have HC1 := keep hC1
          rw [hC0]
          have hq1 := HQ1.out
          have hu1 : IntKind.u64.wrap (j : Int) = (j : Int) := by rw [IntKind.wrap_u64]; omega
          have hu2 : IntKind.u64.wrap (q : Int) = (q : Int) := by rw [IntKind.wrap_u64]; omega
          have hu3 : IntKind.u64.wrap ((q : Int) * 7) = (q : Int) * 7 := by rw [IntKind.wrap_u64]; omega
          have hu4 : IntKind.u64.wrap ((j : Int) + (q : Int) * 7) = (j : Int) + (q : Int) * 7 := by rw [IntKind.wrap_u64]; omega
          have mS : Kept (∀ w6 r6 s6, Rec h k w6 r6 (W.heap.size + 1) W.heap.size x s6 → Samd s s6 → Calls Try.prog 15 #[.pointer (some ⟨W.heap.size + 1, 0, none⟩), .int .u64 ((j : Int) + (q : Int) * 7)] w6 fun e' w' => e' = .returned (.tuple #[.string e, .bool true]) ∧ Below w6.heap.size w6 w') := fun w6 r6 s6 hr6 hs6 => by
            have hp6 : (kys s6).Perm (kys s) := perm_of_mem (kys_nodup hr6.1.2.1) (srs_nodup HLS.out) (fun y => by rw [mem_kys hr6.1.2.1, mem_kys HB.out.1.1.1.2.1, hs6.1 y])
            have := fsample_at w6 r6 (W.heap.size + 1) W.heap.size s6 hr6 (by have := HN1.out; omega) (j + q * 7) (by show j + q * 7 < 18446744073709551616; omega) L ⟨HLS.out.1.trans hp6.symm, HLS.out.2⟩ e (by rw [HLQ.out, Nat.add_mul_mod_self_left, Nat.mod_eq_of_lt hjl]; exact he)
            rw [show ((j + q * 7 : Nat) : Int) = (j : Int) + (q : Int) * 7 by omega] at this
            exact this
          have HE := keep he
          clear hC0 hcs hcle hC1 hel hin hes hesz he hq1
          by_cases hjp : j = 0
          · subst hjp
            go_wp2_with fail
            refine mH.mono ?_
            rintro _ w' ⟨rfl, hw'⟩
            obtain rfl := hw'.symm
            go_wp2_with fail
            refine mG.mono ?_
            rintro _ w6 ⟨rfl, r6, s6, q1, q2, q3⟩
            have S6 : Samd s s6 := ⟨fun y => by rw [q2.1 y, KS.out.1 y], by rw [q2.2, KS.out.2]⟩
            have F6 := keep (KF.out.op q1 q3)
            have mS' := mS.out w6 r6 s6 q1 S6
            rw [show ((0 : Nat) : Int) + (q : Int) * 7 = (q : Int) * 7 by omega] at mS'
            have HS6 := keep S6
            clear mH mG q1 q2 q3 S6 mS
            go_wp2_with fail
            refine mS'.mono ?_
            rintro _ w7 ⟨rfl, hb7⟩
            have F7 := keep (F6.out.below hb7)
            clear mS' hb7 F6
            go_wp2
            go_roundw
            case measure => simp [intOf]; omega
            case rel => exact ⟨0 + 1, r6, s6, by omega, by go_num, by rw [← HC1.out], F7, HS6⟩
          · obtain ⟨e0, he0⟩ : ∃ e, L[j - 1]? = some e := ⟨_, List.getElem?_eq_getElem (by rw [HLQ.out]; omega)⟩
            have hkl : ky e0 < ky e := by
              have := HLS.out.2
              rw [List.pairwise_iff_getElem] at this
              obtain ⟨u1, u2⟩ := List.getElem?_eq_some_iff.1 he0
              obtain ⟨u3, u4⟩ := List.getElem?_eq_some_iff.1 HE.out
              have := this (j - 1) j u1 u3 (by omega)
              rw [u2, u4] at this
              exact this
            have y0 := KF.out.2.1.at he0
            have hq1 : Op.bytesLess e0.toList e.toList = true := by
              rw [less_is, Lib.toList_data, Lib.toList_data]
              exact decide_eq_true hkl
            have hjg : decide ((0 : Int) < (j : Int)) = true := decide_eq_true (by omega)
            have hjn : 0 < j := by omega
            have hjg2 : decide (0 < j) = true := decide_eq_true hjn
            obtain ⟨i0, hi0⟩ : ∃ i0, j - 1 = i0 := ⟨_, rfl⟩
            have hjw : IntKind.i64.wrap ((j : Int) - 1) = (i0 : Int) := by rw [IntKind.wrap_i64]; have := HQ1.out; omega
            have hiw : IntKind.i64.wrap (i0 : Int) = (i0 : Int) := by rw [IntKind.wrap_i64]; have := HQ1.out; omega
            have hi0q : (i0 : Int) < (q : Int) := by omega
            have hi00 : (0 : Int) ≤ (i0 : Int) := by omega
            have hjw' : (j : Int) - 1 = (i0 : Int) := by omega
            rw [hi0] at y0
            clear he0 hkl hi0
            go_wp2_with fail
            refine mH.mono ?_
            rintro _ w' ⟨rfl, hw'⟩
            obtain rfl := hw'.symm
            go_wp2_with fail
            refine mG.mono ?_
            rintro _ w6 ⟨rfl, r6, s6, q1, q2, q3⟩
            have S6 : Samd s s6 := ⟨fun y => by rw [q2.1 y, KS.out.1 y], by rw [q2.2, KS.out.2]⟩
            have F6 := keep (KF.out.op q1 q3)
            have mS' := mS.out w6 r6 s6 q1 S6
            have HS6 := keep S6
            clear mH mG q1 q2 q3 S6 mS
            go_wp2_with fail
            refine mS'.mono ?_
            rintro _ w7 ⟨rfl, hb7⟩
            have F7 := keep (F6.out.below hb7)
            clear mS' hb7 F6
            go_wp2
            go_roundw
            case measure => simp [intOf]; omega
            case rel => exact ⟨j + 1, r6, s6, by omega, by go_num, by rw [← HC1.out], F7, HS6⟩
        · have hjz : ¬ (j : Int) < (q : Int) := by omega
          obtain rfl : j = q := by omega
          have hI' := KF.out.1.1.1.1.2.1
          have hp' : (kys s').Perm (kys s) := perm_of_mem (kys_nodup hI') (srs_nodup HLS.out) (fun y => by rw [mem_kys hI', mem_kys HB.out.1.1.1.2.1, KS.out.1 y])
          have hcq : csk (L.take j) = csk L := by rw [List.take_of_length_le (by rw [HLQ.out]; exact Nat.le_refl _)]
          have mL := rlen_any KF.out.1.1.1
          rw [← kys_len, hp'.length_eq, kys_len, ← HLs.out.2.2, HQ.out] at mL
          have mC := rcost_any KF.out.1.1.1
          rw [cst_kys, csk_perm hp', ← csk_perm HLS.out.1] at mC
          rw [hcq]
          obtain ⟨C0, hC0⟩ : ∃ C0 : Int, ((csk L : Nat) : Int) = C0 := ⟨_, rfl⟩
          rw [hC0] at mC ⊢
          have HW := keep (HBW.out.trans (KF.out.1.1.2.2.2.mono HBW.out.size))
          clear hI' hp' hcq hC0
          go_wp2_with fail
          refine mL.mono ?_
          rintro _ w' ⟨rfl, hw'⟩
          obtain rfl := hw'.symm
          go_wp2_with fail
          refine mC.mono ?_
          rintro _ w' ⟨rfl, hw'⟩
          obtain rfl := hw'.symm
          clear mL mC
          go_wp2
          go_ret
          exact ⟨by simp, HW.out⟩
end Go.Proofs.Ytmokahcjkokanaa
