/-
  Contracts over this program: a step of a dict and of a plain list (does).
-/
import Derived.Test.YtcdcdodhpnmhpaaDictList
namespace Go.Proofs.Ytcdcdodhpnmhpaa
open Go.RowKit Go.Shelf
/-- how a step turns a dict -/
def doS (h : ByteArray → Nat) (s : Dc.St ByteArray Int) (o : Stp) : Dc.St ByteArray Int :=
  if o.op = 0 then (Dc.set h s o.key o.v).1 else if o.op = 1 then Dc.step h s else if o.op = 2 then (Dc.delete h s o.key).1 else if o.op = 3 then Dc.none0 else s
/-- nothing has turned but the dict's blocks and the list's, and new ones -/
def FrL (w : World) (r : Roles) (v : Value) (w' : World) (r' : Roles) (v' : Value) : Prop := Fr w (role r v (7, 0)) w' (role r' v' (7, 0))
theorem role_zero {r : Roles} {v : Value} {k : Nat} : role r v (7, 0) k = (0, 0) ↔ v.ownBlock ≠ some k ∧ r k = (0, 0) := by
  unfold role
  by_cases h : v.ownBlock = some k
  · rw [if_pos h]; simp [h]
  · rw [if_neg h]; simp [h]
theorem FrL.of {w w' : World} {r r' : Roles} {v : Value} (h : Fr w r w' r') : FrL w r v w' r' v := by
  refine ⟨h.1, h.2.1, fun k hk h0 => ?_⟩
  obtain ⟨a, b⟩ := role_zero.1 h0
  obtain ⟨c, d⟩ := h.2.2 k hk b
  exact ⟨c, role_zero.2 ⟨a, d⟩⟩
theorem FrL.trans {w w1 w2 : World} {r r1 r2 : Roles} {v v1 v2 : Value} (h : FrL w r v w1 r1 v1) (g : FrL w1 r1 v1 w2 r2 v2) : FrL w r v w2 r2 v2 := Fr.trans h g
theorem FrL.set {w : World} {r : Roles} {v : Value} {g i : Nat} {u : Value} (hg : v.ownBlock = some g) : FrL w r v (w.setCell ⟨g, i, none⟩ u) r v :=
  ⟨⟨rfl, rfl, rfl⟩, by simp [World.setCell], fun k _ h0 => ⟨Below.heap_setCell _ _ _ _ (fun e => (role_zero.1 h0).1 (by rw [hg]; exact congrArg some e.symm)), h0⟩⟩
theorem FrL.val {w : World} {r : Roles} {v v' : Value} (h : ∀ k, k < w.heap.size → v'.ownBlock = some k → v.ownBlock = some k) : FrL w r v w r v' :=
  ⟨⟨rfl, rfl, rfl⟩, Nat.le_refl _, fun k hk h0 => ⟨rfl, role_zero.2 ⟨fun e => (role_zero.1 h0).1 (h k hk e), (role_zero.1 h0).2⟩⟩⟩
theorem FrL.app {w w' : World} {r : Roles} {v v' : Value} {g : Nat} (hg : w.grownBy w' v.ownBlock) (hv : v'.ownBlock = some g) (hat : v.ownBlock = some g ∨ w.heap.size ≤ g) : FrL w r v w' r v' := by
  refine ⟨⟨hg.os, hg.tape, hg.output⟩, hg.size, fun k hk h0 => ?_⟩
  obtain ⟨a, b⟩ := role_zero.1 h0
  refine ⟨hg.block k hk (fun e => a e.symm), role_zero.2 ⟨fun e => ?_, b⟩⟩
  rw [hv] at e
  cases e
  rcases hat with h | h
  · exact a h
  · omega
theorem info_entry : (Try.prog.info? 51).map (fun i => (i.zero, i.size, i.bytes)) = some (some (.agg #[.string .empty, .int .i64 0]), 2, 24) := by kernel_rfl
theorem AtIs.succ {l : List Ent} {k : Nat} {key : ByteArray} {a : Int} {e : Ent} (h : AtIs (l.take k) key a) (he : l[k]? = some e) (hne : e.1 ≠ key) : AtIs (l.take (k + 1)) key a := by
  have hlt := (List.getElem?_eq_some_iff.1 he).1
  have ht : l.take (k + 1) = l.take k ++ [e] := by
    rw [List.take_succ_eq_append_getElem hlt]
    rw [List.getElem?_eq_getElem hlt] at he
    rw [Option.some.inj he]
  rw [ht]
  rcases h with ⟨rfl, h⟩ | ⟨p, x, rfl, h⟩
  · refine .inl ⟨rfl, fun e' he' => ?_⟩
    rcases List.mem_append.1 he' with h' | h'
    · exact h e' h'
    · rw [List.mem_singleton.1 h']; exact hne
  · exact .inr ⟨p, x, rfl, by rw [List.getElem?_append_left (List.getElem?_eq_some_iff.1 h).1]; exact h⟩
theorem AtIs.hit {l : List Ent} {k : Nat} {key : ByteArray} {e : Ent} (he : l[k]? = some e) (hk : e.1 = key) : AtIs (l.take (k + 1)) key k :=
  .inr ⟨k, e.2, rfl, by rw [List.getElem?_take_of_lt (by omega), he, ← hk]⟩
theorem stp_box (w : World) (o : Stp) : StpAt (w.alloc (.cells o.cells 33)) ⟨w.heap.size, 0, none⟩ o := by
  have h := heap_alloc_new w (.cells o.cells 33)
  refine ⟨?_, ?_, ?_, ?_, ?_, ?_⟩ <;> (rw [cell_of_row _ _ _ _ _ _ h]; rfl)
/-- what does leaves -/
def Done (h : ByteArray → Nat) (N : Nat) (w : World) (r : Roles) (b seed : Nat) (s : Dc.St ByteArray Int) (o : Stp) (lv : Value) (e : Ending) (w' : World) : Prop :=
  ∃ lv' l' r', e = .returned (.tuple #[lv', .bool true]) ∧ Dd h (N + 1) w' r' b seed (doS h s o) ∧ Lst (doS h s o) l' ∧ Lie w' lv' l' ∧ (∀ k, lv'.ownBlock = some k → r' k = (0, 0)) ∧ FrL w r lv w' r' lv'
theorem done_mk {h : ByteArray → Nat} {N : Nat} {w w' : World} {r r' : Roles} {b seed : Nat} {s s' : Dc.St ByteArray Int} {o : Stp} {lv lv' : Value} {l' : List Ent} (hdo : doS h s o = s') (hd : Dd h (N + 1) w' r' b seed s') (hL : Lst s' l') (hY : Lie w' lv' l') (hs : ∀ k, lv'.ownBlock = some k → r' k = (0, 0)) (hF : FrL w r lv w' r' lv') : Done h N w r b seed s o lv (.returned (.tuple #[lv', .bool true])) w' :=
  ⟨lv', l', r', rfl, by rw [hdo]; exact hd, by rw [hdo]; exact hL, hY, hs, hF⟩
theorem Dd.other {h : ByteArray → Nat} {N : Nat} {w : World} {r : Roles} {b seed : Nat} {s : Dc.St ByteArray Int} (hd : Dd h N w r b seed s) {g i : Nat} {u : Value} (hg : r g = (0, 0)) : Dd h N (w.setCell ⟨g, i, none⟩ u) r b seed s :=
  hd.kept (by simp [World.setCell]) (fun k _ hr => Below.heap_setCell _ _ _ _ (fun e => hr (by have e : k = g := e; rw [e]; exact hg)))
set_option maxRecDepth 100000 in
set_option maxHeartbeats 4000000 in
theorem does_any {h : ByteArray → Nat} {seed N : Nat} (hH : HashIs seed h) (w : World) (r : Roles) (b : Nat) (s : Dc.St ByteArray Int) (lv : Value) (l : List Ent) (o : Stp) (hd : Dd h N w r b seed s) (hN : N + 1 ≤ 2600000000000) (hky : o.key.size ≤ maxLen) (hL : Lst s l) (hY : Lie w lv l) (hsep : ∀ k, lv.ownBlock = some k → r k = (0, 0)) :
    Calls Try.prog 17 #[.pointer (some ⟨b, 0, none⟩), lv, .agg o.cells] w fun e w' => Done h N w r b seed s o lv e w' := by
  obtain ⟨ao, cap, rfl, hcap, hcm, hg⟩ := hY.form
  have hnew := stp_box w o
  have hbx := (Below.refl w.heap.size w).alloc (Nat.le_refl _) (.cells o.cells 33)
  have hH0 : r w.heap.size = (0, 0) := Classical.byContradiction fun hh => by have := hd.1.1 _ hh; omega
  have HD := keep hd
  have HL := keep hL
  have HY := keep hY
  have HSEP := keep hsep
  have HBX := keep hbx
  have HW := keep hnew
  have hln : l.length ≤ N := by rw [hL.2.2]; exact hd.2.2.2.1
  have DOS := keep (show doS h s o = doS h s o from rfl)
  obtain ⟨who, op, nn, v, key, R⟩ := o
  dsimp only at hky
  have hkc : (w.alloc (.cells (Stp.cells ⟨who, op, nn, v, key, R⟩) 33)).cell? ⟨w.heap.size, 4, none⟩ = some (.string key) := hnew.2.2.2.2.1
  have hsz : (w.alloc (.cells (Stp.cells ⟨who, op, nn, v, key, R⟩) 33)).heap.size = w.heap.size + 1 := by simp
  clear hd hL hY hsep hnew hbx
  obtain ⟨n, hn⟩ : ∃ n, l.length = n := ⟨_, rfl⟩
  rw [hn] at hcap hln ⊢
  have HN := keep hn
  clear hn
  unfold maxLen at hcm
  have hneH : ∀ k : Nat, k < w.heap.size → ¬ k = w.heap.size := fun k hk => by omega
  unfold Stp.cells at HBX HW hkc hsz ⊢
  dsimp only at HBX HW hkc hsz ⊢
  obtain ⟨W0, hW0⟩ : ∃ W0, w.alloc (.cells #[.int .i64 who, .int .i64 op, .int .i64 nn, .int .i64 v, .string key, .int .u64 R] 33) = W0 := ⟨_, rfl⟩
  rw [hW0] at HBX HW hkc hsz
  go_enter Try.func17, Try.ntmps17
  go_wp2
  go_loopw [8, 17] (fun u8 u17 wr => ∃ (k : Nat) (a : Int), k ≤ n ∧ u17 = .int .i64 k ∧ u8 = .int .i64 a ∧ Kept (Below W0.heap.size W0 wr) ∧ Kept (AtIs (l.take k) key a)) (fun _ i _ => n - (intOf i).toNat)
  case atStart => exact ⟨0, -1, Nat.zero_le _, rfl, rfl, Below.refl _ _, .inl ⟨rfl, by simp⟩⟩
  case round =>
    obtain ⟨k, a, hk, rfl, rfl, BW, AT⟩ := hrel
    have hkc2 : wr.cell? ⟨w.heap.size, 4, none⟩ = some (.string key) := (BW.out.cell (p := ⟨w.heap.size, 4, none⟩) (by show w.heap.size < W0.heap.size; omega)).trans hkc
    by_cases hlt : k < n
    · have hltz : (k : Int) < (n : Int) := by omega
      have hk0 : (0 : Int) ≤ (k : Int) := by omega
      obtain ⟨e, he⟩ : ∃ e, l[k]? = some e := ⟨_, List.getElem?_eq_getElem (by rw [HN.out]; exact hlt)⟩
      rcases hg with hg | ⟨g, rfl, hgl⟩
      · rw [hg] at he; simp at he
      · have hY2 : Lie wr (.slice (some ⟨g, 0, none⟩) l.length cap) l := HY.out.kept (fun k hk => by cases hk; exact (BW.out.block g (by omega)).trans (HBX.out.block g hgl))
        obtain ⟨x1, x2⟩ := hY2.at he
        have HE := keep he
        clear he hY2
        obtain ⟨e1, e2⟩ := e
        dsimp only at x1 x2
        have hwlt : w.heap.size < wr.heap.size := by have := BW.out.size; omega
        have hwne : ¬ w.heap.size = wr.heap.size := by omega
        cases hq : (e1.toList == key.toList) with
        | true =>
          have HQ := keep hq
          go_wp2
          go_roundw
          case measure => simp [intOf]; omega
          case rel => exact ⟨k + 1, k, by omega, by go_num, rfl, BW.out.alloc BW.out.size _, AtIs.hit HE.out (bytes_eq (by simpa using HQ.out))⟩
        | false =>
          have HQ := keep hq
          go_wp2
          go_roundw
          case measure => simp [intOf]; omega
          case rel => exact ⟨k + 1, a, by omega, by go_num, rfl, BW.out.alloc BW.out.size _, AtIs.succ AT.out HE.out (fun e' => by have := HQ.out; have e' : e1 = key := e'; rw [e'] at this; simp at this)⟩
    · have hltz : ¬ (k : Int) < (n : Int) := by omega
      have hAT : AtIs l key a := by have := AT.out; rwa [show k = n by omega, ← HN.out, List.take_length] at this
      have hAll := HBX.out.trans (BW.out.mono (by omega))
      have hdA := keep (HD.out.below hAll)
      have hYA := keep (HY.out.kept (fun k hk => hAll.block k (own_lt HY.out hk)))
      have hFA := keep (FrL.of (v := .slice ao n cap) (Fr.of_below (r := r) hAll))
      have hst := HW.out.bel BW.out (by show w.heap.size < W0.heap.size; omega)
      have hop : wr.cell? ⟨w.heap.size, 1, none⟩ = some (.int .i64 op) := hst.2.1
      have hvc : wr.cell? ⟨w.heap.size, 3, none⟩ = some (.int .i64 v) := hst.2.2.2.1
      have hHl : w.heap.size < wr.heap.size := by have := BW.out.size; omega
      have hlz : (n : Int) ≤ 2600000000000 := by omega
      rw [HN.out] at HY hYA HSEP
      clear hst AT HBX HW hW0 hkc hsz hneH DOS
      by_cases c0 : (op == 0) = true
      · have hop0 : op = 0 := by simpa using c0
        have HDO := keep (show doS h s ⟨who, op, nn, v, key, R⟩ = (Dc.set h s key v).1 by unfold doS; rw [if_pos hop0])
        have mA := set_any hH wr r b s key v hdA.out hN hky
        have hSd := keep (setd_of hdA.out.2.1 key v)
        rcases hAT with ⟨rfl, hno⟩ | ⟨p, x, rfl, hp⟩
        · have hl : (Dc.look key (Dc.all s)).isNone = true := by have := lst_missed HL.out hno; unfold lk at this; rw [this]; rfl
          rw [hl] at mA
          have HNO := keep hno
          clear hl hno hop0
          obtain ⟨i0, hi0, hz0, hz1, hz2⟩ := info_parts info_entry
          go_wp2_with fail
          refine mA.mono ?_
          rintro _ w2 ⟨rfl, r2, hd2, hF2⟩
          have hk2 : w2.cell? ⟨w.heap.size, 4, none⟩ = some (.string key) := (World.cell?_of_block (w := wr) (a := ⟨w.heap.size, 4, none⟩) (hF2.2.2 _ hHl hH0).1).trans hkc2
          have hv2 : w2.cell? ⟨w.heap.size, 3, none⟩ = some (.int .i64 v) := (World.cell?_of_block (w := wr) (a := ⟨w.heap.size, 3, none⟩) (hF2.2.2 _ hHl hH0).1).trans hvc
          have hY2 := keep (hYA.out.kept (fun k hk => (hF2.2.2 k (own_lt hYA.out hk) (HSEP.out k hk)).1))
          have hS2 := keep (fun k hk => (hF2.2.2 k (own_lt hYA.out hk) (HSEP.out k hk)).2)
          have HD2 := keep hd2
          have HF2 := keep hF2
          have hol : w.heap.size < w2.heap.size := Nat.lt_of_lt_of_le hHl hF2.2.1
          have hne2 : ¬ w.heap.size = w2.heap.size := by omega
          have hYn : w2.ownsRow 0 51 2 (.slice ao n cap) n (enL l) := by have := hY2.out; unfold Lie at this; rw [HN.out] at this; exact this
          have HYN := keep hYn
          clear mA hd2 hF2 hYn hkc2 hvc hop
          have hn63 : n + 1 ≤ maxLen := by unfold maxLen; omega
          have hnby : (n + 1) * 24 ≤ 140737488355328 := by omega
          go_wp2_with (first | (at_builtin; refine wpList_append_lies _ rfl _ _ 40 rfl 0 51 i0 _ 2 24 Try.underlying40 hi0 hz0 hz1 hz2 rfl (by omega) (.slice ao n cap) n (enL l) rfl (HYN.out.alloc _) ⟨w2.heap.size, 0, none⟩ 1 1 [.string key, .int .i64 v] rfl rfl (World.news_of_block (cs := #[.string key, .int .i64 v]) (t := 51) (fr := (0, 0)) (heap_alloc_new w2 _)) (by simp [Value.oneCell']) (by omega) hn63 hnby (by simp) (w2.heap.size + 1) (by simp) ?_; intro gg cap' w3 hown hgrow hat hlt3))
          refine bodyPost_ret (results_tmp2 rfl _ _ _) rfl ?_
          have hb2 : Below w2.heap.size w2 (w2.alloc (.cells #[.string key, .int .i64 v] 51)) := (Below.refl _ _).alloc (Nat.le_refl _) _
          have hsz2 : (w2.alloc (.cells #[.string key, .int .i64 v] 51)).heap.size = w2.heap.size + 1 := by simp
          refine done_mk (l' := l ++ [(key, v)]) HDO.out ((HD2.out.below hb2).kept hgrow.size (fun k hk hr => hgrow.block k hk (fun e => hr (hS2.out k e.symm)))) (lst_add HL.out hSd.out HNO.out) ?_ (fun k e => ?_) ((hFA.out.trans (FrL.of HF2.out)).trans ((FrL.of (Fr.of_below hb2)).trans (FrL.app (g := gg) hgrow rfl (hat.imp id (fun e => by rw [hsz2]; omega)))))
          · unfold Lie
            rw [List.length_append, HN.out]
            have : enL (l ++ [(key, v)]) = enL l ++ [.string key, .int .i64 v] := by unfold enL; rw [List.flatMap_append]; rfl
            rw [this]
            exact hown
          · have e : gg = k := by cases e; rfl
            rw [← e]
            rcases hat with h' | h'
            · exact hS2.out gg h'
            · exact Classical.byContradiction fun hh => by have := HD2.out.1.1 gg hh; omega
        · have hl : (Dc.look key (Dc.all s)).isNone = false := by have := lst_found HL.out hp; unfold lk at this; rw [this]; rfl
          rw [hl] at mA
          have HP := keep hp
          have hpl : p < n := by rw [← HN.out]; exact (List.getElem?_eq_some_iff.1 hp).1
          rcases hg with hg | ⟨g, rfl, hgl⟩
          · rw [hg] at hp; simp at hp
          clear hl hp hop0
          have p0 : (0 : Int) ≤ (p : Int) := by omega
          have p1 : (p : Int) < (n : Int) := by omega
          go_wp2_with fail
          refine mA.mono ?_
          rintro _ w2 ⟨rfl, r2, hd2, hF2⟩
          have hv2 : w2.cell? ⟨w.heap.size, 3, none⟩ = some (.int .i64 v) := (World.cell?_of_block (w := wr) (a := ⟨w.heap.size, 3, none⟩) (hF2.2.2 _ hHl hH0).1).trans hvc
          have hY2 := keep (hYA.out.kept (fun k hk => (hF2.2.2 k (own_lt hYA.out hk) (HSEP.out k hk)).1))
          have hS2 := keep (fun k hk => (hF2.2.2 k (own_lt hYA.out hk) (HSEP.out k hk)).2)
          have x2 := (hY2.out.at HP.out).2
          have xf := hY2.out.free (p * 2 + 1)
          have HD2 := keep hd2
          have HF2 := keep hF2
          clear mA hd2 hF2 hkc2 hvc hop
          go_wp2
          refine bodyPost_ret (results_tmp2 rfl _ _ _) rfl ?_
          exact done_mk HDO.out (HD2.out.other (hS2.out g rfl)) (lst_set HL.out hSd.out HP.out) (hY2.out.setv HP.out) hS2.out ((hFA.out.trans (FrL.of HF2.out)).trans (FrL.set rfl))
      · have c0 : (op == 0) = false := by simpa using c0
        have n0 : ¬ op = 0 := by simpa using c0
        by_cases c1 : (op == 1) = true
        · have n1 : op = 1 := by simpa using c1
          have HDO := keep (show doS h s ⟨who, op, nn, v, key, R⟩ = Dc.step h s by unfold doS; rw [if_neg n0, if_pos n1])
          have mA := get_any hH wr r b s key hdA.out (by omega) hky
          have hSd := keep (samd_step hdA.out.2.1)
          rcases hAT with ⟨rfl, hno⟩ | ⟨p, x, rfl, hp⟩
          · have hl : Dc.look key (Dc.all s) = none := lst_missed HL.out hno
            rw [hl] at mA
            unfold got at mA
            have mA : Calls _ _ _ _ (fun e w' => e = .returned (.tuple #[.int .i64 0, .bool false]) ∧ _) := mA
            clear hl hno n0 n1
            go_wp2_with fail
            refine mA.mono ?_
            rintro _ w2 ⟨rfl, r2, hd2, hF2⟩
            have hY2 := keep (hYA.out.kept (fun k hk => (hF2.2.2 k (own_lt hYA.out hk) (HSEP.out k hk)).1))
            have hS2 := keep (fun k hk => (hF2.2.2 k (own_lt hYA.out hk) (HSEP.out k hk)).2)
            have HD2 := keep hd2
            have HF2 := keep hF2
            clear mA hd2 hF2 hkc2 hvc hop
            go_wp2
            refine bodyPost_ret (results_tmp2 rfl _ _ _) rfl ?_
            exact done_mk HDO.out (HD2.out.more (Nat.le_succ N)) (lst_same HL.out hSd.out) hY2.out hS2.out (hFA.out.trans (FrL.of HF2.out))
          · have hl : Dc.look key (Dc.all s) = some x := lst_found HL.out hp
            rw [hl] at mA
            unfold got at mA
            have mA : Calls _ _ _ _ (fun e w' => e = .returned (.tuple #[.int .i64 x, .bool true]) ∧ _) := mA
            have HP := keep hp
            have hpl : p < n := by rw [← HN.out]; exact (List.getElem?_eq_some_iff.1 hp).1
            rcases hg with hg | ⟨g, rfl, hgl⟩
            · rw [hg] at hp; simp at hp
            clear hl hp n0 n1
            have p0 : (0 : Int) ≤ (p : Int) := by omega
            have p1 : (p : Int) < (n : Int) := by omega
            go_wp2_with fail
            refine mA.mono ?_
            rintro _ w2 ⟨rfl, r2, hd2, hF2⟩
            have hY2 := keep (hYA.out.kept (fun k hk => (hF2.2.2 k (own_lt hYA.out hk) (HSEP.out k hk)).1))
            have hS2 := keep (fun k hk => (hF2.2.2 k (own_lt hYA.out hk) (HSEP.out k hk)).2)
            have x2 := (hY2.out.at HP.out).2
            dsimp only at x2
            have HD2 := keep hd2
            have HF2 := keep hF2
            clear mA hd2 hF2 hkc2 hvc hop
            go_wp2
            refine bodyPost_ret (results_tmp2 rfl _ _ _) rfl ?_
            exact done_mk HDO.out (HD2.out.more (Nat.le_succ N)) (lst_same HL.out hSd.out) hY2.out hS2.out (hFA.out.trans (FrL.of HF2.out))
        · have c1 : (op == 1) = false := by simpa using c1
          have n1 : ¬ op = 1 := by simpa using c1
          by_cases c2 : (op == 2) = true
          · have n2 : op = 2 := by simpa using c2
            have HDO := keep (show doS h s ⟨who, op, nn, v, key, R⟩ = (Dc.delete h s key).1 by unfold doS; rw [if_neg n0, if_neg n1, if_pos n2])
            have mA := delete_any hH wr r b s key hdA.out hN hky
            have hSd := keep (deld_of hdA.out.2.1 key)
            rcases hAT with ⟨rfl, hno⟩ | ⟨p, x, rfl, hp⟩
            · have hl : (Dc.look key (Dc.all s)).isSome = false := by have := lst_missed HL.out hno; unfold lk at this; rw [this]; rfl
              rw [hl] at mA
              have HNO := keep hno
              clear hl hno n0 n1 n2
              go_wp2_with fail
              refine mA.mono ?_
              rintro _ w2 ⟨rfl, r2, hd2, hF2⟩
              have hY2 := keep (hYA.out.kept (fun k hk => (hF2.2.2 k (own_lt hYA.out hk) (HSEP.out k hk)).1))
              have hS2 := keep (fun k hk => (hF2.2.2 k (own_lt hYA.out hk) (HSEP.out k hk)).2)
              have HD2 := keep hd2
              have HF2 := keep hF2
              clear mA hd2 hF2 hkc2 hvc hop
              go_wp2
              refine bodyPost_ret (results_tmp2 rfl _ _ _) rfl ?_
              exact done_mk HDO.out (HD2.out.more (Nat.le_succ N)) (lst_del_none HL.out hSd.out HNO.out) hY2.out hS2.out (hFA.out.trans (FrL.of HF2.out))
            · have hl : (Dc.look key (Dc.all s)).isSome = true := by have := lst_found HL.out hp; unfold lk at this; rw [this]; rfl
              rw [hl] at mA
              have HP := keep hp
              have hpl : p < n := by rw [← HN.out]; exact (List.getElem?_eq_some_iff.1 hp).1
              rcases hg with hg | ⟨g, rfl, hgl⟩
              · rw [hg] at hp; simp at hp
              clear hl hp n0 n1 n2
              obtain ⟨m, hmn⟩ : ∃ m, n = m + 1 := ⟨n - 1, by omega⟩
              obtain ⟨z, hz⟩ : ∃ z, l[m]? = some z := ⟨_, List.getElem?_eq_getElem (by rw [HN.out]; omega)⟩
              have HZ := keep hz
              clear hz
              have p0 : (0 : Int) ≤ (p : Int) := by omega
              have p1 : (p : Int) < (n : Int) := by omega
              have m0 : (0 : Int) ≤ (m : Int) := by omega
              have m1 : (m : Int) < (n : Int) := by omega
              have hwm : IntKind.i64.wrap ((n : Int) - 1) = (m : Int) := by rw [IntKind.wrap_i64]; omega
              obtain ⟨i0, hi0, hz0, hz1, hz2⟩ := info_parts info_entry
              have hsl : ∀ w, (Instr.slice 40 (.slice (some ⟨g, 0, none⟩) n cap) none (some (.int .i64 (m : Int))) none).run Try.prog w = .ok (.slice (some ⟨g, 0, none⟩) m cap) w := fun w => slice_high w _ _ Try.underlying40 i0 hi0 g n cap m _ rfl (by omega)
              have HMN := keep hmn
              clear hmn
              clear hi0 hz0 hz1 hz2
              go_wp2_with fail
              refine mA.mono ?_
              rintro _ w2 ⟨rfl, r2, hd2, hF2⟩
              have hY2 := keep (hYA.out.kept (fun k hk => (hF2.2.2 k (own_lt hYA.out hk) (HSEP.out k hk)).1))
              have hS2 := keep (fun k hk => (hF2.2.2 k (own_lt hYA.out hk) (HSEP.out k hk)).2)
              obtain ⟨y1, y2⟩ := hY2.out.at HP.out
              obtain ⟨x1, x2⟩ := hY2.out.at HZ.out
              obtain ⟨z1, z2⟩ := z
              dsimp only at x1 x2 y1 y2
              have xf := hY2.out.free (p * 2)
              have xf1 := hY2.out.free (p * 2 + 1)
              have HD2 := keep hd2
              have HF2 := keep hF2
              clear mA hd2 hF2 hkc2 hvc hop
              go_wp2
              refine bodyPost_ret (results_tmp2 rfl _ _ _) rfl ?_
              have hm : l.length - 1 = m := by rw [HN.out, HMN.out]; rfl
              have hC := hY2.out.cut (z := (z1, z2)) HP.out
              have hLd := lst_del (z := (z1, z2)) HL.out hSd.out HP.out (by rw [hm]; exact HZ.out)
              rw [hm] at hC hLd
              exact done_mk HDO.out (((HD2.out.other (hS2.out g rfl)).other (hS2.out g rfl)).more (Nat.le_succ N)) hLd hC (fun k e => hS2.out k e) (((hFA.out.trans (FrL.of HF2.out)).trans (FrL.set rfl)).trans ((FrL.set rfl).trans (FrL.val (fun k _ e => e))))
          · have c2 : (op == 2) = false := by simpa using c2
            have n2 : ¬ op = 2 := by simpa using c2
            by_cases c3 : (op == 3) = true
            · have n3 : op = 3 := by simpa using c3
              have HDO := keep (show doS h s ⟨who, op, nn, v, key, R⟩ = Dc.none0 by unfold doS; rw [if_neg n0, if_neg n1, if_neg n2, if_pos n3])
              have mA := clear_any h wr r b seed _ (N + 1) s hdA.out.1
              clear n0 n1 n2 n3 hAT
              go_wp2_with fail
              refine mA.mono ?_
              rintro _ w2 ⟨rfl, hd2, hF2⟩
              have mZ := len_t w2 r b Dc.none0 hd2
              rw [ln_none] at mZ
              have mZ : Calls _ _ _ _ (fun e w' => e = .returned (.int .i64 0) ∧ _) := mZ
              have HD2 := keep hd2
              have HF2 := keep hF2
              clear mA hd2 hF2 hkc2 hvc hop
              go_wp2_with fail
              refine mZ.mono ?_
              rintro _ w' ⟨rfl, hw'⟩
              subst hw'
              clear mZ
              go_wp2
              refine bodyPost_ret (results_tmp2 rfl _ _ _) rfl ?_
              exact done_mk (l' := []) HDO.out HD2.out lst_none ⟨rfl, .inl ⟨rfl, rfl⟩⟩ (fun k e => by cases e) ((hFA.out.trans (FrL.of HF2.out)).trans (FrL.val (fun k _ e => by cases e)))
            · have c3 : (op == 3) = false := by simpa using c3
              have n3 : ¬ op = 3 := by simpa using c3
              have HDO := keep (show doS h s ⟨who, op, nn, v, key, R⟩ = s by unfold doS; rw [if_neg n0, if_neg n1, if_neg n2, if_neg n3])
              have mZ := len_t wr r b s hdA.out
              rw [← HL.out.2.2, HN.out] at mZ
              clear n0 n1 n2 n3 hAT
              go_wp2_with fail
              refine mZ.mono ?_
              rintro _ w' ⟨rfl, hw'⟩
              obtain rfl := hw'.symm
              clear mZ
              go_wp2
              refine bodyPost_ret (results_tmp2 rfl _ _ _) rfl ?_
              exact done_mk HDO.out (hdA.out.more (Nat.le_succ N)) HL.out hYA.out HSEP.out hFA.out
end Go.Proofs.Ytcdcdodhpnmhpaa
