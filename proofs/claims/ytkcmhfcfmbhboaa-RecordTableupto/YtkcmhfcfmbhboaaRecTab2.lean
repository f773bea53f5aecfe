/-
  The statement's own walk: a record is a table, and its cost that of its pairs.
-/
import Derived.Test.YtkcmhfcfmbhboaaRecTab1
import Derived.Deep.QuietTactic
import Derived.BigQuiet
namespace Go.Proofs.Ytkcmhfcfmbhboaa
open Go.RowKit Go.Shelf
def newone : ByteArray := { data := #[110, 101, 119, 32, 111, 110, 101] }
def vee : ByteArray := { data := #[118] }
theorem newone_is : ({ data := #[110, 101, 119, 32, 111, 110, 101] } : ByteArray) = newone := rfl
theorem vee_is : ({ data := #[118] } : ByteArray) = vee := rfl
theorem newone_sz : newone.size = 7 := by decide
theorem vee_sz : vee.size = 1 := by decide
theorem mod_len {l : List Ent} {p : Nat} {f x v : ByteArray} {B g cap : Nat} {w : World} (h : Rw B w (.slice (some ⟨g, 0, none⟩) l.length cap) l) (hp : l[p]? = some (f, x)) : Rw B (w.setCell ⟨g, p * 2 + 1, none⟩ (.string v)) (.slice (some ⟨g, 0, none⟩) l.length cap) (l.set p (f, v)) := by
  unfold Rw
  rw [List.length_set]
  refine ⟨by rw [enL_len, List.length_set], ?_⟩
  rcases h.2 with ⟨e, _⟩ | ⟨g', cap', cur, e, hb, hh, q1, q2, q3, q4⟩
  · cases e
  · cases e
    refine .inr ⟨g, cap, _, rfl, hb, cells_setCell hh, q1, q2, by simpa using q3, ?_⟩
    rw [take_set q4]
    exact set_odd hp
theorem belN {B : Nat} {w w' : World} (h : Below B w w') (n : Nat) : Below B w (w'.drewN n) := ⟨h.os, h.tape, h.output, h.size, h.block⟩
theorem own_down {w : World} {B B' e s : Nat} {v : Value} {n : Nat} {xs : List Value} (h : w.ownsRow B e s v n xs) (hB : B' ≤ B) : w.ownsRow B' e s v n xs := by
  refine ⟨h.1, ?_⟩
  rcases h.2 with h' | ⟨g, cap, cur, h1, h0, h2⟩
  · exact .inl h'
  · exact .inr ⟨g, cap, cur, h1, Nat.le_trans hB h0, h2⟩
set_option maxRecDepth 100000 in
set_option maxHeartbeats 4000000 in
theorem table_walk {h : ByteArray → Nat} (W : World) (x : Nat) (hH : HashIs x h) (so : Option Addr) (cap : Nat) (S : List Stp) (hS : Steps W so S) :
    Calls Try.prog 3 #[.int .u64 x, .slice so S.length cap] W fun e w' => e = .returned (.bool true) ∧ Below W.heap.size W w' := by
  obtain ⟨n, hn⟩ : ∃ n, S.length = n := ⟨_, rfl⟩
  have HS := keep hS
  have HN := keep hn
  rw [hn]
  clear hS hn
  go_enter Try.func3, Try.ntmps3
  go_wp2_with fail
  refine (rnew_any h W x 0).mono ?_
  rintro _ w1 ⟨rfl, hb1, hr1⟩
  have I1 : Kept (TbI h W x 0 (.slice none 0 0) w1) :=
    ⟨_, _, [], ⟨⟨hr1, by omega, fun k hk => by simp; omega, hb1⟩, ⟨rfl, .inl ⟨rfl, rfl⟩⟩, fun g hg => by cases hg⟩, lst_none, by rw [ln_none]; omega⟩
  clear hb1 hr1
  go_wp2
  go_loopw [6, 7] (fun v i wr => ∃ k : Nat, k ≤ n ∧ k ≤ 3000 ∧ i = .int .i64 k ∧ Kept (TbI h W x k v wr)) (fun _ i _ => 3000 - (intOf i).toNat)
  case atStart => exact ⟨0, Nat.zero_le _, Nat.zero_le _, rfl, I1⟩
  case round =>
    obtain ⟨k, hk, hk3, rfl, KI⟩ := hrel
    by_cases hlt : k < n ∧ k < 3000
    · have hl1 : decide ((k : Int) < (n : Int)) = true := decide_eq_true (by omega)
      have hl2 : decide ((k : Int) < 3000) = true := decide_eq_true (by omega)
      have hl1' : (k : Int) < (n : Int) := by omega
      have hk0 : (0 : Int) ≤ (k : Int) := by omega
      obtain ⟨r, s, l, hb, hL, hln⟩ := KI.out
      have hkS : k < S.length := by rw [HN.out]; exact hlt.1
      obtain ⟨a, rfl, hab, hsz, hjunk, hst0⟩ := HS.out k hkS
      have hst := hst0.bel hb.1.2.2.2 (by rw [add_block]; exact hab)
      clear hst0 hjunk
      obtain ⟨o, ho⟩ : ∃ o, S[k]'hkS = o := ⟨_, rfl⟩
      rw [ho] at hst hsz
      clear ho
      obtain ⟨op, who, f, v, nn, cnt⟩ := o
      obtain ⟨t0, t1, t2, t3, t4, t5⟩ := hst
      dsimp only at t0 t1 t2 t3 t4 t5 hsz
      obtain ⟨X, hX⟩ : ∃ X, wr.heap.size = X := ⟨_, rfl⟩
      obtain ⟨W1, hW1⟩ : ∃ W1, wr.alloc (.cells #[.int .i64 op, .int .i64 who, .string f, .string v, .int .u64 nn, .int .i64 cnt] 28) = W1 := ⟨_, rfl⟩
      have hbx : Below wr.heap.size wr W1 := by rw [← hW1]; exact (Below.refl _ _).alloc (Nat.le_refl _) _
      have hz1 : X < W1.heap.size := by rw [← hW1, ← hX]; simp
      have hx1 : W1.heap[X]? = some (.cells (Stp.cells ⟨op, who, f, v, nn, cnt⟩) 28 (0, 0)) := by rw [← hW1, ← hX]; exact heap_alloc_new _ _
      have hXr : rr r (W.heap.size + 1) X = (0, 0) := hb.1.fresh (by omega)
      have hBX := box_at hx1
      dsimp only at hBX
      obtain ⟨b0, b2, b3, b5⟩ := hBX
      clear b5
      have HX1 := keep hx1
      have HXR := keep hXr
      have HB := keep (hb.below hbx)
      have HLs := keep hL
      have HLN := keep hln
      have HLT := keep hlt
      have HZ1 := keep hz1
      have HSZ := keep hsz
      obtain ⟨ao, cp, rfl, hao⟩ := hb.2.1.form
      have hll : l.length ≤ 2600000000000 := by rw [hL.2.2]; omega
      obtain ⟨q, hq⟩ : ∃ q, l.length = q := ⟨_, rfl⟩
      have hql : q = ln s := by rw [← hq]; exact hL.2.2
      have HQ := keep hq
      have HQL := keep hql
      have HLL := keep hll
      have HAO := keep hao
      rw [hq] at HB ⊢
      clear hb hL hln hlt hbx hz1 hx1 hXr hsz hll hq hql hao hkS KI
      have moved : Kept (∀ {w' : World} {r' : Roles}, Fr W1 (rr r (W.heap.size + 1)) w' (rr r' (W.heap.size + 1)) → w'.cell? ⟨X, 2, none⟩ = some (.string f) ∧ w'.cell? ⟨X, 3, none⟩ = some (.string v)) := fun hf => by
        have := (hf.2.2 X HZ1.out HXR.out).1.trans HX1.out
        have := box_at this
        exact ⟨this.2.1, this.2.2.1⟩
      have tab : (∃ (p : Nat) (y : ByteArray), l[p]? = some (f, y)) ∨ ∀ e ∈ l, e.1 ≠ f := by
        by_cases hh : ∃ e ∈ l, e.1 = f
        · obtain ⟨e, he, rfl⟩ := hh
          obtain ⟨p, hp⟩ := List.getElem?_of_mem he
          exact .inl ⟨p, e.2, hp⟩
        · exact .inr (fun e he h1 => hh ⟨e, he, h1⟩)
      by_cases c0 : op = 0
      · subst c0
        cases htf : tol f with
        | true =>
          have mF := find_any _ _ _ _ HB.out.2.1 f HLL.out
          go_wp2_with fail
          refine mF.mono ?_
          rintro _ w' ⟨⟨at0, rfl, hat0⟩, hw'⟩
          obtain rfl := hw'.symm
          clear mF hat0 tab
          have mS := rset_long HB.out.1.1 f v (by rw [htf]; simp)
          have mX := fits_any f
          rw [htf] at mX
          go_wp2_with fail
          refine mS.mono ?_
          rintro _ w2 ⟨rfl, hb2, _⟩
          have B2 := keep (HB.out.below hb2)
          obtain ⟨d2, d3⟩ := moved.out (Fr.of_below hb2)
          have I4 : Kept (TbI h W x (k + 1) (.slice ao q cp) w2) := ⟨r, s, l, B2.out.more (by omega), HLs.out, by have := HLN.out; omega⟩
          have mL := rlen_any B2.out.1.1
          rw [← HQL.out] at mL
          clear mS hb2 b0 b2 b3
          go_wp2_with fail
          refine (mX w2).mono ?_
          rintro _ w' ⟨rfl, hw'⟩
          obtain rfl := hw'.symm
          go_wp2_with fail
          refine mL.mono ?_
          rintro _ w' ⟨rfl, hw'⟩
          obtain rfl := hw'.symm
          clear mL mX
          go_wp2
          go_roundw
          case measure => simp [intOf]; have := HLT.out; omega
          case rel => exact ⟨k + 1, by have := HLT.out; omega, by have := HLT.out; omega, by go_num, I4⟩
        | false =>
          cases htv : tol v with
          | true =>
            have mF := find_any _ _ _ _ HB.out.2.1 f HLL.out
            go_wp2_with fail
            refine mF.mono ?_
            rintro _ w' ⟨⟨at0, rfl, hat0⟩, hw'⟩
            obtain rfl := hw'.symm
            clear mF hat0 tab
            have mS := rset_long HB.out.1.1 f v (by rw [htf, htv]; simp)
            have mX := fits_any f
            rw [htf] at mX
            have mY := fits_any v
            rw [htv] at mY
            go_wp2_with fail
            refine mS.mono ?_
            rintro _ w2 ⟨rfl, hb2, _⟩
            have B2 := keep (HB.out.below hb2)
            obtain ⟨d2, d3⟩ := moved.out (Fr.of_below hb2)
            have I4 : Kept (TbI h W x (k + 1) (.slice ao q cp) w2) := ⟨r, s, l, B2.out.more (by omega), HLs.out, by have := HLN.out; omega⟩
            have mL := rlen_any B2.out.1.1
            rw [← HQL.out] at mL
            clear mS hb2 b0 b2 b3
            go_wp2_with fail
            refine (mX w2).mono ?_
            rintro _ w' ⟨rfl, hw'⟩
            obtain rfl := hw'.symm
            go_wp2_with fail
            refine (mY w2).mono ?_
            rintro _ w' ⟨rfl, hw'⟩
            obtain rfl := hw'.symm
            go_wp2_with fail
            refine mL.mono ?_
            rintro _ w' ⟨rfl, hw'⟩
            obtain rfl := hw'.symm
            clear mL mX
            go_wp2
            go_roundw
            case measure => simp [intOf]; have := HLT.out; omega
            case rel => exact ⟨k + 1, by have := HLT.out; omega, by have := HLT.out; omega, by go_num, I4⟩
          | false =>
            rcases tab with ⟨p, y, hp⟩ | hno
            · have mF := find_yes HB.out.2.1 HLL.out HLs.out.1 hp
              go_wp2_with fail
              refine mF.mono ?_
              rintro _ w' ⟨rfl, hw'⟩
              obtain rfl := hw'.symm
              clear mF
              have hf1 := tol_le htf
              have hv1 := tol_le htv
              have mS := rset_ok hH HB.out.1.1 (by have := HLT.out; omega) f v hf1 hv1 (fun _ => by have := HLN.out; have := HLT.out; omega)
              have mX := fits_any f
              rw [htf] at mX
              have mY := fits_any v
              rw [htv] at mY
              have hlk : lk s f = some y := lst_found HLs.out hp
              rw [hlk] at mS
              have HLK := keep hlk
              clear hlk hf1 hv1
              go_wp2_with fail
              refine mS.mono ?_
              rintro _ w2 ⟨rfl, r2, s2, q1, q2, q3⟩
              have B2 := keep (HB.out.op q1 q3)
              obtain ⟨d2, d3⟩ := moved.out q3
              have Q2 := keep q2
              have hln2 := q2.2
              rw [HLK.out] at hln2
              clear mS q1 q2 q3 b0 b2 b3
              go_wp2_with fail
              refine (mX w2).mono ?_
              rintro _ w' ⟨rfl, hw'⟩
              obtain rfl := hw'.symm
              go_wp2_with fail
              refine (mY w2).mono ?_
              rintro _ w' ⟨rfl, hw'⟩
              obtain rfl := hw'.symm
              clear mX mY
              obtain ⟨g, rfl, hg, hgW⟩ : ∃ g, ao = some ⟨g, 0, none⟩ ∧ g < wr.heap.size ∧ W.heap.size ≤ g := by
                rcases HAO.out with h | ⟨g, h1, h2, h3⟩
                · rw [h] at hp; simp at hp
                · exact ⟨g, h1, h2, h3⟩
              have hpq : p < q := by rw [← HQ.out]; exact (List.getElem?_eq_some_iff.1 hp).1
              have R2 := B2.out.2.1
              rw [← HQ.out] at R2
              obtain ⟨c0, c1⟩ := R2.at hp
              have hfr : w2.frozen? ⟨g, p * 2 + 1, none⟩ = false := Lie.free (own_zero R2) _
              have R3 := mod_len (v := v) R2 hp
              have hsz3 : (w2.setCell ⟨g, p * 2 + 1, none⟩ (.string v)).heap.size = w2.heap.size := by simp [World.setCell]
              have B3 := keep (B2.out.row (w' := w2.setCell ⟨g, p * 2 + 1, none⟩ (.string v)) (by rw [hsz3]; exact Nat.le_refl _) ⟨rfl, rfl, rfl⟩ (fun k _ hn => Below.heap_setCell _ _ _ _ (fun e => hn (by rw [e]; rfl))) R3 (fun g' hg' => .inl hg'))
              have L3 := keep (lst_set HLs.out Q2.out hp)
              have hln3 : ln s2 = q := by rw [hln2, ← HQL.out]; rfl
              rw [HQ.out] at B3
              have I4 : Kept (TbI h W x (k + 1) (.slice (some ⟨g, 0, none⟩) q cp) (w2.setCell ⟨g, p * 2 + 1, none⟩ (.string v))) := ⟨r2, s2, _, B3.out, L3.out, by rw [hln3]; have := HLN.out; have := HQL.out; omega⟩
              have mL := rlen_any B3.out.1.1
              rw [hln3] at mL
              have hpz : (p : Int) < (q : Int) := by omega
              have hp0 : (0 : Int) ≤ (p : Int) := by omega
              have hpn : ¬ (p : Int) < 0 := by omega
              clear R2 R3 hsz3 hln2 hln3 hp hpq hg hgW
              go_wp2_with fail
              refine mL.mono ?_
              rintro _ w' ⟨rfl, hw'⟩
              obtain rfl := hw'.symm
              clear mL
              go_wp2
              
              go_roundw
              case measure => simp [intOf]; have := HLT.out; omega
              case rel => exact ⟨k + 1, by have := HLT.out; omega, by have := HLT.out; omega, by go_num, I4⟩
            · have mF := find_no HB.out.2.1 HLL.out hno
              go_wp2_with fail
              refine mF.mono ?_
              rintro _ w' ⟨rfl, hw'⟩
              obtain rfl := hw'.symm
              clear mF
              have hf1 := tol_le htf
              have hv1 := tol_le htv
              have mS := rset_ok hH HB.out.1.1 (by have := HLT.out; omega) f v hf1 hv1 (fun _ => by have := HLN.out; have := HLT.out; omega)
              have mX := fits_any f
              rw [htf] at mX
              have mY := fits_any v
              rw [htv] at mY
              have hlk : lk s f = none := lst_missed HLs.out hno
              rw [hlk] at mS
              have HLK := keep hlk
              clear hlk hf1 hv1
              go_wp2_with fail
              refine mS.mono ?_
              rintro _ w2 ⟨rfl, r2, s2, q1, q2, q3⟩
              have B2 := keep (HB.out.op q1 q3)
              obtain ⟨d2, d3⟩ := moved.out q3
              have Q2 := keep q2
              have hln2 := q2.2
              rw [HLK.out] at hln2
              clear mS q1 q2 q3 b0 b2 b3
              go_wp2_with fail
              refine (mX w2).mono ?_
              rintro _ w' ⟨rfl, hw'⟩
              obtain rfl := hw'.symm
              go_wp2_with fail
              refine (mY w2).mono ?_
              rintro _ w' ⟨rfl, hw'⟩
              obtain rfl := hw'.symm
              clear mX mY
              obtain ⟨g', cp', W3, hrun, hR, hs3, ho3, hat, hsame⟩ := push_row f v B2.out.2.1 B2.out.1.2.2.2.size HLL.out
              rw [HQ.out] at hrun hR
              have B3 := keep (B2.out.row (v' := .slice (some ⟨g', 0, none⟩) (q + 1) cp') (by omega) ho3 hsame hR (fun g hg => by cases hg; exact hat))
              have L3 := keep (lst_add HLs.out Q2.out hno)
              have hln3 : ln s2 = q + 1 := by rw [hln2, ← HQL.out]; rfl
              have I4 : Kept (TbI h W x (k + 1) (.slice (some ⟨g', 0, none⟩) (q + 1) cp') W3) := ⟨r2, s2, _, B3.out, L3.out, by rw [hln3]; have := HLN.out; have := HQL.out; omega⟩
              have mL := rlen_any B3.out.1.1
              rw [hln3] at mL
              have MA := keep hrun
              have hqm : (((q + 1 : Nat) : Int)) = (q : Int) + 1 := by omega
              clear hrun hR hs3 ho3 hat hsame hln2 hln3 hno
              go_wp2_with (first | (show wpList _ _ _ ({ dst := some 118, op := Op.call { callee := Callee.builtin Builtin.append, args := _, argTypes := _ }, type := _, pos := _, after := _, guard := _ } :: _) _ _; refine wpL_app_run rfl (.tmp 111) (.tmp 117) 26 rfl _ _ _ rfl rfl MA.out ?_) | (go_at_call 13; refine mL.mono ?_; rintro _ w' ⟨rfl, hw'⟩; obtain rfl := hw'.symm))
              
              go_roundw
              case measure => simp [intOf]; have := HLT.out; omega
              case rel => exact ⟨k + 1, by have := HLT.out; omega, by have := HLT.out; omega, by go_num, I4⟩
      · have c0b : (op == 0) = false := beq_eq_false_iff_ne.2 c0
        by_cases c2 : op = 2
        · subst c2
          rcases tab with ⟨p, y, hp⟩ | hno
          · have mF := find_yes HB.out.2.1 HLL.out HLs.out.1 hp
            go_wp2_with fail
            refine mF.mono ?_
            rintro _ w' ⟨rfl, hw'⟩
            obtain rfl := hw'.symm
            clear mF
            have mD := rdel_any hH HB.out.1.1 (by have := HLT.out; omega) f HSZ.out.1
            have hlk : lk s f = some y := lst_found HLs.out hp
            rw [hlk] at mD
            have HLK := keep hlk
            clear hlk
            have hp0 : (0 : Int) ≤ (p : Int) := by omega
            go_wp2_with fail
            refine mD.mono ?_
            rintro _ w2 ⟨rfl, r2, s2, q1, q2, q3⟩
            have B2 := keep (HB.out.op q1 q3)
            have L3 := keep (lst_erase HLs.out q2 hp)
            have hln2 := q2.2
            rw [HLK.out] at hln2
            have mO := wout_any _ _ _ _ B2.out.2.1 (p : Int) p (fun k _ => by omega) HLL.out
            have hlen : (l.eraseIdx p).length = ln s2 := L3.out.2.2
            have hln3 : ln s2 ≤ k := by have := HLN.out; rw [hln2]; omega
            clear mD q1 q2 q3 b0 b2 b3 hln2
            go_wp2_with fail
            refine mO.mono ?_
            rintro _ w3 ⟨⟨v3, rfl, hR3⟩, hb3⟩
            have B3 := keep (B2.out.row (v' := v3) hb3.size ⟨hb3.os, hb3.tape, hb3.output⟩ (fun k hk _ => hb3.block k hk) (own_down hR3 B2.out.1.2.2.2.size) (fun g hg => .inr (World.ownsRow.lt hR3 g hg).1))
            have I4 : Kept (TbI h W x (k + 1) v3 w3) := ⟨r2, s2, _, B3.out.more (by omega), L3.out, by omega⟩
            have mL := rlen_any B3.out.1.1
            obtain ⟨u, hu⟩ : ∃ u, ln s2 = u := ⟨_, rfl⟩
            rw [hu] at mL hlen
            obtain ⟨ao3, cp3, rfl, _⟩ := hR3.form
            rw [hlen] at I4 ⊢
            clear mO hR3 hb3 hlen hln3 hu
            go_wp2_with fail
            refine mL.mono ?_
            rintro _ w' ⟨rfl, hw'⟩
            obtain rfl := hw'.symm
            clear mL
            go_wp2
            go_roundw
            case measure => simp [intOf]; have := HLT.out; omega
            case rel => exact ⟨k + 1, by have := HLT.out; omega, by have := HLT.out; omega, by go_num, I4⟩
          · have mF := find_no HB.out.2.1 HLL.out hno
            go_wp2_with fail
            refine mF.mono ?_
            rintro _ w' ⟨rfl, hw'⟩
            obtain rfl := hw'.symm
            clear mF
            have mD := rdel_any hH HB.out.1.1 (by have := HLT.out; omega) f HSZ.out.1
            have hlk : lk s f = none := lst_missed HLs.out hno
            rw [hlk] at mD
            have HLK := keep hlk
            clear hlk
            go_wp2_with fail
            refine mD.mono ?_
            rintro _ w2 ⟨rfl, r2, s2, q1, q2, q3⟩
            have B2 := keep (HB.out.op q1 q3)
            have L3 := keep (show Lst s2 (l.eraseIdx l.length) from by rw [List.eraseIdx_of_length_le (Nat.le_refl _)]; exact lst_del_none HLs.out q2 hno)
            have hln2 := q2.2
            rw [HLK.out] at hln2
            have mO := wout_any _ _ _ _ B2.out.2.1 (-1) l.length (fun k hk => by omega) HLL.out
            have hlen : (l.eraseIdx l.length).length = ln s2 := L3.out.2.2
            have hln3 : ln s2 ≤ k := by have := HLN.out; rw [hln2]; omega
            clear mD q1 q2 q3 b0 b2 b3 hln2
            go_wp2_with fail
            refine mO.mono ?_
            rintro _ w3 ⟨⟨v3, rfl, hR3⟩, hb3⟩
            have B3 := keep (B2.out.row (v' := v3) hb3.size ⟨hb3.os, hb3.tape, hb3.output⟩ (fun k hk _ => hb3.block k hk) (own_down hR3 B2.out.1.2.2.2.size) (fun g hg => .inr (World.ownsRow.lt hR3 g hg).1))
            have I4 : Kept (TbI h W x (k + 1) v3 w3) := ⟨r2, s2, _, B3.out.more (by omega), L3.out, by omega⟩
            have mL := rlen_any B3.out.1.1
            obtain ⟨u, hu⟩ : ∃ u, ln s2 = u := ⟨_, rfl⟩
            rw [hu] at mL hlen
            obtain ⟨ao3, cp3, rfl, _⟩ := hR3.form
            rw [hlen] at I4 ⊢
            clear mO hR3 hb3 hlen hln3 hu
            go_wp2_with fail
            refine mL.mono ?_
            rintro _ w' ⟨rfl, hw'⟩
            obtain rfl := hw'.symm
            clear mL
            go_wp2
            go_roundw
            case measure => simp [intOf]; have := HLT.out; omega
            case rel => exact ⟨k + 1, by have := HLT.out; omega, by have := HLT.out; omega, by go_num, I4⟩
        · have c2b : (op == 2) = false := beq_eq_false_iff_ne.2 c2
          rcases tab with ⟨p, y, hp⟩ | hno
          · have mF := find_yes HB.out.2.1 HLL.out HLs.out.1 hp
            go_wp2_with fail
            refine mF.mono ?_
            rintro _ w' ⟨rfl, hw'⟩
            obtain rfl := hw'.symm
            clear mF
            have mG := rget_any hH HB.out.1.1 (by have := HLT.out; omega) f HSZ.out.1
            have hlk : lk s f = some y := lst_found HLs.out hp
            rw [hlk] at mG
            unfold got at mG
            clear hlk
            go_wp2_with fail
            refine mG.mono ?_
            rintro _ w2 ⟨rfl, r2, s2, q1, q2, q3⟩
            have B2 := keep (HB.out.op q1 q3)
            have I4 : Kept (TbI h W x (k + 1) (.slice ao q cp) w2) := ⟨r2, s2, l, B2.out.more (by omega), lst_same HLs.out q2, by have := HLN.out; rw [q2.2]; omega⟩
            have mL := rlen_any B2.out.1.1
            rw [q2.2, ← HQL.out] at mL
            obtain ⟨g, rfl, hg, hgW⟩ : ∃ g, ao = some ⟨g, 0, none⟩ ∧ g < wr.heap.size ∧ W.heap.size ≤ g := by
              rcases HAO.out with h | ⟨g, h1, h2, h3⟩
              · rw [h] at hp; simp at hp
              · exact ⟨g, h1, h2, h3⟩
            have hpq : p < q := by rw [← HQ.out]; exact (List.getElem?_eq_some_iff.1 hp).1
            obtain ⟨c0, c1⟩ := B2.out.2.1.at hp
            have hpz : (p : Int) < (q : Int) := by omega
            have hp0 : (0 : Int) ≤ (p : Int) := by omega
            dsimp only at c1
            clear c0 hp hpq hg hgW
            clear mG q1 q2 q3 b0 b2 b3
            go_wp2_with fail
            refine mL.mono ?_
            rintro _ w' ⟨rfl, hw'⟩
            obtain rfl := hw'.symm
            clear mL
            go_wp2
            go_roundw
            case measure => simp [intOf]; have := HLT.out; omega
            case rel => exact ⟨k + 1, by have := HLT.out; omega, by have := HLT.out; omega, by go_num, I4⟩
          · have mF := find_no HB.out.2.1 HLL.out hno
            go_wp2_with fail
            refine mF.mono ?_
            rintro _ w' ⟨rfl, hw'⟩
            obtain rfl := hw'.symm
            clear mF
            have mG := rget_any hH HB.out.1.1 (by have := HLT.out; omega) f HSZ.out.1
            have hlk : lk s f = none := lst_missed HLs.out hno
            rw [hlk] at mG
            unfold got at mG
            clear hlk
            go_wp2_with fail
            refine mG.mono ?_
            rintro _ w2 ⟨rfl, r2, s2, q1, q2, q3⟩
            have B2 := keep (HB.out.op q1 q3)
            have I4 : Kept (TbI h W x (k + 1) (.slice ao q cp) w2) := ⟨r2, s2, l, B2.out.more (by omega), lst_same HLs.out q2, by have := HLN.out; rw [q2.2]; omega⟩
            have mL := rlen_any B2.out.1.1
            rw [q2.2, ← HQL.out] at mL
            clear mG q1 q2 q3 b0 b2 b3
            go_wp2_with fail
            refine mL.mono ?_
            rintro _ w' ⟨rfl, hw'⟩
            obtain rfl := hw'.symm
            clear mL
            go_wp2
            go_roundw
            case measure => simp [intOf]; have := HLT.out; omega
            case rel => exact ⟨k + 1, by have := HLT.out; omega, by have := HLT.out; omega, by go_num, I4⟩
    · obtain ⟨r, s, l, hb, hL, hln⟩ := KI.out
      have mP := rpairs_any wr r _ _ s hb.1.1 (by omega)
      obtain ⟨ao, cp, rfl, hao⟩ := hb.2.1.form
      obtain ⟨q, hq⟩ : ∃ q, l.length = q := ⟨_, rfl⟩
      have hql : q = ln s := by rw [← hq]; exact hL.2.2
      have hstop : (¬ (k : Int) < (n : Int)) ∨ ((k : Int) < (n : Int) ∧ ¬ (k : Int) < 3000) := by
        by_cases h1 : k < n
        · exact .inr ⟨by omega, by omega⟩
        · exact .inl (by omega)
      have hq3 : q ≤ 3000 := by omega
      have HB := keep hb
      have HLs := keep hL
      have HQ := keep hq
      have HQL := keep hql
      have HAO := keep hao
      rw [hq] at HB ⊢
      clear hb hL hln hq hql hao KI hlt I1
      obtain ⟨wo, hwo⟩ : ∃ o, o = wr := ⟨_, rfl⟩
      subst hwo
      rcases hstop with h1 | ⟨h1, h2⟩
      all_goals
        go_wp2_with fail
        refine mP.mono ?_
        rintro _ w5 ⟨v5, L, rfl, hLs, hP, hb5⟩
        obtain ⟨g5, rfl, hg5, _⟩ := hP.form
        have hI := HB.out.1.1.1.2.1
        have hLp : L.Perm l := hLs.1.trans (HLs.out.perm hI).symm
        have hLq : L.length = q := by rw [hLp.length_eq]; exact HQ.out
        have hcL : cst L = cst (Dc.all s) := cst_perm hLs.1
        have hcb := HB.out.1.1.2.1.cst hI
        have B5 := keep (HB.out.below hb5)
        rw [hLq] at hP ⊢
        have HP := keep hP
        have HLS := keep hLs
        have HLP := keep hLp
        have HLQ := keep hLq
        have HCL := keep hcL
        have HCB := keep hcb
        clear mP hP hLs hLp hLq hcL hcb hI hb5 hg5
        go_wp2
        go_loopw [15, 16] (fun c i wr => ∃ j : Nat, j ≤ q ∧ i = .int .i64 j ∧ c = .int .i64 ((cst (L.take j) : Nat) : Int) ∧ Kept (Below w5.heap.size w5 wr)) (fun _ i _ => q - (intOf i).toNat)
        case atStart => exact ⟨0, Nat.zero_le _, rfl, rfl, Below.refl _ _⟩
        case round =>
          obtain ⟨j, hj, rfl, rfl, KB⟩ := hrel
          by_cases hjl : j < q
          · have hjz : (j : Int) < (q : Int) := by omega
            have hj0 : (0 : Int) ≤ (j : Int) := by omega
            obtain ⟨e, he⟩ : ∃ e, L[j]? = some e := ⟨_, List.getElem?_eq_getElem (by rw [HLQ.out]; exact hjl)⟩
            obtain ⟨p, hp⟩ := List.getElem?_of_mem (HLP.out.subset (List.mem_of_getElem? he))
            have hpq : p < q := by rw [← HQ.out]; exact (List.getElem?_eq_some_iff.1 hp).1
            have hpz : (p : Int) < (q : Int) := by omega
            have hp0 : (0 : Int) ≤ (p : Int) := by omega
            have hpn : ¬ (p : Int) < 0 := by omega
            have hpnb : decide ((p : Int) < 0) = false := decide_eq_false hpn
            have BW := B5.out.below KB.out
            obtain ⟨ga, rfl⟩ : ∃ ga, ao = some ⟨ga, 0, none⟩ := by
              rcases HAO.out with h | ⟨ga, h, _⟩
              · rw [h] at hp; simp at hp
              · exact ⟨ga, h⟩
            obtain ⟨e1, e2⟩ := e
            obtain ⟨a0, a1⟩ := BW.2.1.at hp
            obtain ⟨z0, z1⟩ := (HP.out.kept KB.out).at he
            have mF := find_yes BW.2.1 (by rw [HQ.out]; omega) HLs.out.1 hp
            have hcs : cst (L.take (j + 1)) = cst (L.take j) + (32 + e1.size + e2.size) := by
              obtain ⟨hjj, hee⟩ := List.getElem?_eq_some_iff.1 he
              rw [List.take_succ_eq_append_getElem hjj, hee]
              unfold cst
              rw [List.map_append, List.sum_append]
              simp
            have hcle : cst (L.take (j + 1)) ≤ 2199056809984 := by
              have hc1 : cst (L.take (j + 1)) + cst (L.drop (j + 1)) = cst L := by
                unfold cst
                rw [← List.sum_append, ← List.map_append, List.take_append_drop]
              have := HCL.out
              have := HCB.out
              omega
            have HCS := keep hcs
            obtain ⟨C0, hC0⟩ : ∃ C0 : Int, ((cst (L.take j) : Nat) : Int) = C0 := ⟨_, rfl⟩
            have hw1 : IntKind.i64.wrap (32 + (e1.size : Int)) = 32 + (e1.size : Int) := by rw [IntKind.wrap_i64]; omega
            have hw2 : IntKind.i64.wrap (32 + (e1.size : Int) + (e2.size : Int)) = 32 + (e1.size : Int) + (e2.size : Int) := by rw [IntKind.wrap_i64]; omega
            have hw3 : IntKind.i64.wrap (C0 + (32 + (e1.size : Int) + (e2.size : Int))) = C0 + (32 + (e1.size : Int) + (e2.size : Int)) := by rw [IntKind.wrap_i64]; omega
            have hC1 : C0 + (32 + (e1.size : Int) + (e2.size : Int)) = ((cst (L.take (j + 1)) : Nat) : Int) := by omega
            have HC1 := keep hC1
            rw [hC0]
            dsimp only at a1 z0 z1
            clear hC0 hcs hcle a0 BW hC1
            by_cases hjp : j = 0
            · subst hjp
              clear hp he
              go_wp2_with fail
              refine mF.mono ?_
              rintro _ w' ⟨rfl, hw'⟩
              obtain rfl := hw'.symm
              clear mF
              go_wp2_with fail
              go_quiet (fail)
              go_wp2
              go_quiet (fail)
              go_wp2
              go_roundw
              case measure => simp [intOf]; omega
              case rel => exact ⟨0 + 1, by omega, by go_num, by rw [← HC1.out], belN KB.out _⟩
            · obtain ⟨e0, he0⟩ : ∃ e, L[j - 1]? = some e := ⟨_, List.getElem?_eq_getElem (by rw [HLQ.out]; omega)⟩
              have hkl : ky e0.1 < ky e1 := by
                have := HLS.out.2
                rw [List.pairwise_iff_getElem] at this
                obtain ⟨u1, u2⟩ := List.getElem?_eq_some_iff.1 he0
                obtain ⟨u3, u4⟩ := List.getElem?_eq_some_iff.1 he
                have := this (j - 1) j u1 u3 (by omega)
                rw [u2, u4] at this
                exact this
              obtain ⟨y0, y1⟩ := (HP.out.kept KB.out).at he0
              obtain ⟨e01, e02⟩ := e0
              dsimp only at y0 hkl
              have hq1 : Op.bytesLess e1.toList e01.toList = false := by
                rw [less_is, Lib.toList_data, Lib.toList_data]
                exact decide_eq_false (fun hh => List.lt_irrefl _ (List.lt_trans hkl hh))
              have hq2 : (e1.toList == e01.toList) = false := beq_eq_false_iff_ne.2 (fun hh => by
                rw [Lib.toList_data, Lib.toList_data] at hh
                unfold ky at hkl
                rw [hh] at hkl
                exact List.lt_irrefl _ hkl)
              have hjg : decide ((0 : Int) < (j : Int)) = true := decide_eq_true (by omega)
              have hjn : 0 < j := by omega
              have hjg2 : decide (0 < j) = true := decide_eq_true hjn
              obtain ⟨i0, hi0⟩ : ∃ i0, j - 1 = i0 := ⟨_, rfl⟩
              have hjw : IntKind.i64.wrap ((j : Int) - 1) = (i0 : Int) := by rw [IntKind.wrap_i64]; omega
              have hi0q : (i0 : Int) < (q : Int) := by omega
              have hi00 : (0 : Int) ≤ (i0 : Int) := by omega
              have hjw' : (j : Int) - 1 = (i0 : Int) := by omega
              rw [hi0] at y0
              clear hp he he0 y1 hkl hi0
              go_wp2_with fail
              refine mF.mono ?_
              rintro _ w' ⟨rfl, hw'⟩
              obtain rfl := hw'.symm
              clear mF
              go_wp2_with fail
              go_quiet (fail)
              go_wp2
              go_quiet (fail)
              go_wp2
              go_roundw
              case measure => simp [intOf]; omega
              case rel => exact ⟨j + 1, by omega, by go_num, by rw [← HC1.out], belN KB.out _⟩
          · have hjz : ¬ (j : Int) < (q : Int) := by omega
            obtain rfl : j = q := by omega
            have hcq : cst (L.take j) = cst (Dc.all s) := by rw [List.take_of_length_le (by rw [HLQ.out]; exact Nat.le_refl _)]; exact HCL.out
            rw [hcq]
            have BW := keep (B5.out.below KB.out)
            have mS := rset_ok hH BW.out.1.1 (by omega) newone vee (by rw [newone_sz]; omega) (by rw [vee_sz]; omega) (fun _ => by have := HQL.out; omega)
            have hcb := HCB.out
            obtain ⟨C0, hC0⟩ : ∃ C0 : Nat, cst (Dc.all s) = C0 := ⟨_, rfl⟩
            rw [hC0] at hcb ⊢
            have hw1 : IntKind.i64.wrap ((C0 : Int) + 32) = (C0 : Int) + 32 := by rw [IntKind.wrap_i64]; omega
            have hw2 : IntKind.i64.wrap ((C0 : Int) + 32 + 7) = (C0 : Int) + 32 + 7 := by rw [IntKind.wrap_i64]; omega
            have hw3 : IntKind.i64.wrap ((C0 : Int) + 32 + 7 + 1) = (C0 : Int) + 32 + 7 + 1 := by rw [IntKind.wrap_i64]; omega
            have HC0 := keep hC0
            clear hC0 hcb hcq
            by_cases hin : ∃ e ∈ l, e.1 = newone
            · obtain ⟨⟨e1, e2⟩, he, hee⟩ := hin
              dsimp only at hee
              subst hee
              obtain ⟨p, hp⟩ := List.getElem?_of_mem he
              have hlk := lst_found HLs.out hp
              rw [hlk] at mS
              have hpn : ¬ (p : Int) < 0 := by omega
              clear he hlk
              go_wp2_with fail
              refine mS.mono ?_
              rintro _ w6 ⟨rfl, r6, s6, q1, q2, q3⟩
              have B6 := keep (BW.out.op q1 q3)
              have mF := find_yes B6.out.2.1 (by rw [HQ.out]; omega) HLs.out.1 hp
              clear mS q1 q2 q3 hp
              go_wp2_with fail
              refine mF.mono ?_
              rintro _ w' ⟨rfl, hw'⟩
              obtain rfl := hw'.symm
              clear mF
              go_wp2
              go_ret
              exact ⟨by simp, B6.out.1.2.2.2⟩
            · have hno : ∀ e ∈ l, e.1 ≠ newone := fun e he h1 => hin ⟨e, he, h1⟩
              have hlk := lst_missed HLs.out hno
              have HLK := keep hlk
              rw [hlk] at mS
              clear hlk
              go_wp2_with fail
              refine mS.mono ?_
              rintro _ w6 ⟨rfl, r6, s6, q1, q2, q3⟩
              have B6 := keep (BW.out.op q1 q3)
              have mF := find_no B6.out.2.1 (by rw [HQ.out]; omega) hno
              have mC := rcost_any B6.out.1.1
              have hsc := set_cst BW.out.1.1.1.2.1 q1.1.2.1 q2
              rw [HLK.out, HC0.out, newone_sz, vee_sz] at hsc
              simp only [cstO] at hsc
              rw [show cst (Dc.all s6) = C0 + 32 + 7 + 1 by omega] at mC
              rw [show ((C0 + 32 + 7 + 1 : Nat) : Int) = (C0 : Int) + 32 + 7 + 1 by omega] at mC
              clear mS q1 q2 q3 hno hin hsc
              go_wp2_with fail
              refine mF.mono ?_
              rintro _ w' ⟨rfl, hw'⟩
              obtain rfl := hw'.symm
              clear mF
              go_wp2_with fail
              refine mC.mono ?_
              rintro _ w' ⟨rfl, hw'⟩
              obtain rfl := hw'.symm
              clear mC
              go_wp2
              go_ret
              exact ⟨by simp, B6.out.1.2.2.2⟩
end Go.Proofs.Ytkcmhfcfmbhboaa
