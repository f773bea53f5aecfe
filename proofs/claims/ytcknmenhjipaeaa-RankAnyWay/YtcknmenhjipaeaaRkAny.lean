/-
  Contracts over this program: the statement RankAnyWay.
-/
import Derived.Test.YtcknmenhjipaeaaRkSame
namespace Go.Proofs.Ytcknmenhjipaeaa
open Go.RowKit Go.Shelf
set_option linter.unusedVariables false
set_option linter.unusedSimpArgs false
/-- two ranks and a plain list, all apart -/
def Two (W w : World) (O1 : Nat → Prop) (Ra s1 : Nat) (L : List Ent) (lv : Value) (M : List Ent) (O2 : Nat → Prop) (Rb s2 : Nat) (L2 : List Ent) : Prop :=
  RK w O1 Ra s1 L ∧ RK w O2 Rb s2 L2 ∧ En w lv M ∧ (∀ k, lv.ownBlock = some k → ¬ O1 k ∧ ¬ O2 k) ∧ (∀ k, O1 k → ¬ O2 k) ∧ (∀ k, O1 k → W.heap.size ≤ k) ∧ (∀ k, O2 k → W.heap.size ≤ k) ∧ Below W.heap.size W w
theorem Two.turn2 {W w w' : World} {O1 O2 O2' : Nat → Prop} {Ra s1 Rb s2 : Nat} {L L2 L2' M : List Ent} {lv : Value} (h : Two W w O1 Ra s1 L lv M O2 Rb s2 L2) (hK : RK w' O2' Rb s2 L2') (hf : FO O2 w O2' w') : Two W w' O1 Ra s1 L lv M O2' Rb s2 L2' := by
  obtain ⟨h1, h2, h3, h4, h5, h6, h7, h8⟩ := h
  obtain ⟨b1, b2⟩ := hf.bel h7 h8.size
  have hk1 : ∀ k, O1 k → w'.heap[k]? = w.heap[k]? ∧ ¬ O2' k := fun k hk => hf.2.2 k (h1.lt k hk) (h5 k hk)
  have hk3 : ∀ k, lv.ownBlock = some k → w'.heap[k]? = w.heap[k]? ∧ ¬ O2' k := fun k hk => hf.2.2 k (own_lt h3 hk) (h4 k hk).2
  exact ⟨h1.kept hf.2.1 (fun k hk => (hk1 k hk).1), hK, own_kept h3 (fun k hk => (hk3 k hk).1), fun k hk => ⟨(h4 k hk).1, (hk3 k hk).2⟩, fun k hk => (hk1 k hk).2, h6, b2, h8.trans b1⟩
theorem Two.turn1 {W w w' : World} {O1 O1' O2 : Nat → Prop} {Ra s1 Rb s2 : Nat} {L L' L2 M : List Ent} {lv : Value} (h : Two W w O1 Ra s1 L lv M O2 Rb s2 L2) (hK : RK w' O1' Ra s1 L') (hf : FO O1 w O1' w') : Two W w' O1' Ra s1 L' lv M O2 Rb s2 L2 := by
  obtain ⟨h1, h2, h3, h4, h5, h6, h7, h8⟩ := h
  obtain ⟨b1, b2⟩ := hf.bel h6 h8.size
  have hk2 : ∀ k, O2 k → w'.heap[k]? = w.heap[k]? ∧ ¬ O1' k := fun k hk => hf.2.2 k (h2.lt k hk) (fun h => h5 k h hk)
  have hk3 : ∀ k, lv.ownBlock = some k → w'.heap[k]? = w.heap[k]? ∧ ¬ O1' k := fun k hk => hf.2.2 k (own_lt h3 hk) (h4 k hk).1
  exact ⟨hK, h2.kept hf.2.1 (fun k hk => (hk2 k hk).1), own_kept h3 (fun k hk => (hk3 k hk).1), fun k hk => ⟨(hk3 k hk).2, (h4 k hk).2⟩, fun k hk hh => (hk2 k hh).2 hk, b2, h7, h8.trans b1⟩
theorem Two.below {W w w' : World} {O1 O2 : Nat → Prop} {Ra s1 Rb s2 : Nat} {L L2 M : List Ent} {lv : Value} (h : Two W w O1 Ra s1 L lv M O2 Rb s2 L2) (hb : Below w.heap.size w w') : Two W w' O1 Ra s1 L lv M O2 Rb s2 L2 := h.turn2 (h.2.1.below hb) (FO.below hb)
set_option maxRecDepth 100000 in
set_option maxHeartbeats 8000000 in
theorem anyway_walk (W : World) (one two : Nat) (h1s : one < Dw.M) (h2s : two < Dw.M) (so : Option Addr) (cap : Nat) (S : List Stp) (hS : Steps W so S) (hl : S.length ≤ maxLen) :
    Calls Try.prog 7 #[.int .u64 one, .int .u64 two, .slice so S.length cap] W fun e w' => e = .returned (.bool true) ∧ Below W.heap.size W w' := by
  have mW := kwakes_any W
  have MB := keep (fun w1 (hb : Below W.heap.size W w1) => built_any w1 one h1s so cap S (hS.bel hb) hl)
  clear hS hl h1s
  go_enter Try.func7, Try.ntmps7
  go_wp2_with fail
  refine mW.mono ?_
  rintro _ w1 ⟨rfl, hb1⟩
  have mB := MB.out w1 hb1
  have HB1 := keep hb1
  clear mW MB hb1
  go_wp2_with fail
  refine mB.mono ?_
  rintro _ w2 ⟨⟨Ra, lv, rfl, O, L, M, hBt, hOB⟩, hb2⟩
  have hmath := hBt.1.math
  have hlen := hBt.2.2.2.len hmath.2.2.2
  obtain ⟨lo, lc, hlv⟩ := hBt.2.1.form
  subst hlv
  rw [← hlen] at hBt hOB ⊢
  obtain ⟨n, hn⟩ : ∃ n, L.length = n := ⟨_, rfl⟩
  rw [hn] at hBt hOB ⊢
  have mN := knew_any w2 two h2s
  have HBt := keep hBt
  have HOB := keep hOB
  have HB2 := keep hb2
  have HM := keep hmath
  have HN := keep hn
  have HLN := keep hlen
  clear mB hBt hOB hb2 hmath hlen hn h2s
  go_wp2_with fail
  refine mN.mono ?_
  rintro _ w3 ⟨⟨Rb, O2, rfl, hK2, hO2⟩, hb3⟩
  have hbW : Below W.heap.size W w2 := Below.up HB1.out HB2.out
  have hT : Two W w3 O Ra one L (.slice lo n lc) M O2 Rb two [] := by
    have hlt := HBt.out.1.lt
    refine ⟨HBt.out.1.below hb3, hK2, own_kept HBt.out.2.1 (fun k hk => hb3.block k (own_lt HBt.out.2.1 hk)), fun k hk => ⟨HBt.out.2.2.1 k hk, fun h => ?_⟩, fun k hk h => ?_, fun k hk => Nat.le_trans HB1.out.size (HOB.out k (.inl hk)), fun k hk => Nat.le_trans hbW.size (hO2 k hk), Below.up hbW hb3⟩
    · have h1 := hO2 k h
      have h2 := own_lt HBt.out.2.1 hk
      omega
    · have h1 := hO2 k h
      have h2 := hlt k hk
      omega
  have HT := keep hT
  have hn1 : n ≤ 1048576 := by have := HM.out.2.2.1; have := HN.out; omega
  have HN1 := keep hn1
  have hw0 : IntKind.i64.wrap ((n : Int) - 1) = (n : Int) - 1 := by rw [IntKind.wrap_i64]; omega
  clear mN hK2 hO2 hb3 hbW hT hn1
  go_wp2
  go_loopg [11, 12, 13] n (fun kx s11 s12 s13 wr => ∃ k : Nat, s11 = .int .i64 ((k : Int) - 1) ∧ k ≤ n ∧ k ≤ kx ∧ Kept (∃ O1 O2 L2, Two W wr O1 Ra one L (.slice lo n lc) M O2 Rb two L2 ∧ ∀ e, e ∈ L2 ↔ e ∈ M.drop k))
  case atStart => exact ⟨n, rfl, Nat.le_refl _, Nat.le_refl _, O, O2, [], HT.out, fun e => by rw [List.drop_of_length_le (by rw [← HLN.out, HN.out]; exact Nat.le_refl _)]⟩
  case round =>
    obtain ⟨k, rfl, hk1, hg1, KI⟩ := hrel
    obtain ⟨O1, O2', L2, hT, hmem⟩ := KI.out
    have hMl : M.length = n := by rw [← HLN.out]; exact HN.out
    by_cases hk0 : 0 < k
    · obtain ⟨m, rfl⟩ : ∃ m, k = m + 1 := ⟨k - 1, by omega⟩
      have e1 : ((m + 1 : Nat) : Int) - 1 = (m : Int) := by omega
      rw [e1]
      have m0 : (0 : Int) ≤ (m : Int) := by omega
      have m1 : (m : Int) < (n : Int) := by omega
      have mw : IntKind.i64.wrap ((m : Int) - 1) = (m : Int) - 1 := by have := HN1.out; rw [IntKind.wrap_i64]; omega
      obtain ⟨e, he⟩ : ∃ e, M[m]? = some e := ⟨_, List.getElem?_eq_getElem (by omega)⟩
      have hos : ∃ g, lo = some ⟨g, 0, none⟩ := by obtain ⟨g, c', hlv⟩ := hT.2.2.1.some (by omega); injection hlv with h1 h2 h3; exact ⟨g, h1⟩
      obtain ⟨g, rfl⟩ := hos
      obtain ⟨l1, l2⟩ := hT.2.2.1.at he
      have heL : e ∈ L := (HBt.out.2.2.2.1 e).2 (List.mem_of_getElem? he)
      have hes : e.1.size ≤ 1048576 := HM.out.2.1 e heL
      have hen : isNan e.2 = false := HM.out.1.2 e heL
      have hm2 := hT.2.1.math
      have hkM : (Dc.keys M).Nodup := HBt.out.2.2.2.2
      have hsc : sco L2 e.1 = none := (Dc.look_none e.1).2 (fun hh => by
        obtain ⟨d, hd, hde⟩ := List.mem_map.1 hh
        obtain ⟨i, hi⟩ := List.getElem?_of_mem ((hmem d).1 hd)
        rw [List.getElem?_drop] at hi
        have := uniq_at hkM hi he hde
        omega)
      have hl2 : L2.length < 1048576 := by
        have hp : L2.Perm (M.drop (m + 1)) := perm_mem hm2.2.2.2 (((List.drop_sublist (m + 1) M).map Prod.fst).nodup hkM) hmem
        rw [hp.length_eq, List.length_drop]
        have := HN1.out
        omega
      have MS : Kept (Calls Try.prog 17 #[.pointer (some ⟨Rb, 0, none⟩), .string e.1, .float .f64 e.2] wr.drew fun en w' => en = .returned (.tuple #[.bool true, .int .i64 0]) ∧ (w'.cell? ⟨g, m * 2, none⟩ = some (.string e.1) ∧ w'.cell? ⟨g, m * 2 + 1, none⟩ = some (.float .f64 e.2)) ∧ Kept (∃ O1 O2 L2, Two W w' O1 Ra one L (.slice (some ⟨g, 0, none⟩) n lc) M O2 Rb two L2 ∧ ∀ e, e ∈ L2 ↔ e ∈ M.drop m)) := by
        have hTd : Two W wr.drew O1 Ra one L (.slice (some ⟨g, 0, none⟩) n lc) M O2' Rb two L2 := hT.below (Below.refl _ wr).drew
        refine (kset_new hTd.2.1 e.1 e.2 hes hen hsc hl2).mono ?_
        rintro _ w' ⟨rfl, O3, L3, s3, k3, f3⟩
        have hT3 := hTd.turn2 k3 f3
        refine ⟨rfl, hT3.2.2.1.at he, O1, O3, L3, hT3, fun d => ?_⟩
        rw [s3 d, hmem d, List.drop_eq_getElem_cons (by omega : m < M.length), List.mem_cons, (List.getElem?_eq_some_iff.1 he).2]
        constructor
        · rintro (h | ⟨h, _⟩)
          · exact .inl h
          · exact .inr h
        · rintro (h | h)
          · exact .inl h
          · refine .inr ⟨h, fun hde => ?_⟩
            obtain ⟨i, hi⟩ := List.getElem?_of_mem h
            rw [List.getElem?_drop] at hi
            have := uniq_at hkM hi he hde
            omega
      obtain ⟨e1', e2'⟩ := e
      dsimp only at *
      obtain ⟨ok, hok⟩ : ∃ ok, m * 2 = ok := ⟨_, rfl⟩
      rw [hok] at l1 l2 MS
      have HS : Kept (wr.drew.cell? ⟨g, ok, none⟩ = some (.string e1') ∧ wr.drew.cell? ⟨g, ok + 1, none⟩ = some (.float .f64 e2')) := ⟨l1, l2⟩
      have HK1 := keep hk1
      have HG1 := keep hg1
      clear hT hmem KI hMl he heL hes hen hm2 hkM hsc hl2 l1 l2 e1 hk1 hg1
      go_wp2_with fail
      refine wp_region_held_drew (S := fun W => W.cell? ⟨g, ok, none⟩ = some (.string e1') ∧ W.cell? ⟨g, ok + 1, none⟩ = some (.float .f64 e2')) (by kernel_rfl) HS.out (fun hHeld => ?_)
      refine wpAnyH_take (i := 0) (oi := { dst := some 35, op := _, type := _, pos := _, after := _, guard := _ }) (v := ?v1) rfl (by kernel_rfl) (by kernel_rfl) (by kernel_rfl) (fun _ _ _ h => h) (Or.inl ⟨by rfl, ?hy1⟩) (by assumption) ?rest1
      case hy1 => (intro w hSw; obtain ⟨p0,p1⟩ := hSw; go_simp; try with_reducible rfl)
      try simp only [Act.put, List.setIfInBounds_toArray, List.set_cons_zero, List.set_cons_succ]
      refine wpAnyH_take (i := 1) (oi := { dst := some 36, op := _, type := _, pos := _, after := _, guard := _ }) (v := ?v2) rfl (by kernel_rfl) (by kernel_rfl) (by kernel_rfl) (fun _ _ _ h => h) (Or.inl ⟨by rfl, ?hy2⟩) (by assumption) ?rest2
      case hy2 => (intro w hSw; obtain ⟨p0,p1⟩ := hSw; go_simp; try with_reducible rfl)
      try simp only [Act.put, List.setIfInBounds_toArray, List.set_cons_zero, List.set_cons_succ]
      refine wpAnyH_take (i := 2) (oi := { dst := some 37, op := _, type := _, pos := _, after := _, guard := _ }) (v := ?v3) rfl (by kernel_rfl) (by kernel_rfl) (by kernel_rfl) (fun _ _ _ h => h) (Or.inl ⟨by rfl, ?hy3⟩) (by assumption) ?rest3
      case hy3 => (intro w hSw; obtain ⟨p0,p1⟩ := hSw; go_simp; try with_reducible rfl)
      try simp only [Act.put, List.setIfInBounds_toArray, List.set_cons_zero, List.set_cons_succ]
      refine wpAnyH_take (i := 3) (oi := { dst := some 38, op := _, type := _, pos := _, after := _, guard := _ }) (v := (.pointer (some ⟨g, ok, none⟩))) rfl (by kernel_rfl) (by kernel_rfl) (by kernel_rfl) (fun _ _ _ h => h) (Or.inl ⟨by rfl, ?hy4⟩) (by assumption) ?rest4
      case hy4 => (intro w hSw; obtain ⟨p0,p1⟩ := hSw; first | (go_simp; done) | (go_simp; simp [*]; done) | (simp [*]; go_simp; done))
      try simp only [Act.put, List.setIfInBounds_toArray, List.set_cons_zero, List.set_cons_succ]
      refine wpAnyH_take (i := 4) (oi := { dst := some 39, op := _, type := _, pos := _, after := _, guard := _ }) (v := (.pointer (some ⟨g, ok, none⟩))) rfl (by kernel_rfl) (by kernel_rfl) (by kernel_rfl) (fun _ _ _ h => h) (Or.inl ⟨by rfl, ?hy5⟩) (by assumption) ?rest5
      case hy5 => (intro w hSw; obtain ⟨p0,p1⟩ := hSw; first | (go_simp; done) | (go_simp; simp [*]; done) | (simp [*]; go_simp; done))
      try simp only [Act.put, List.setIfInBounds_toArray, List.set_cons_zero, List.set_cons_succ]
      refine wpAnyH_take (i := 5) (oi := { dst := some 40, op := _, type := _, pos := _, after := _, guard := _ }) (v := ?v6) rfl (by kernel_rfl) (by kernel_rfl) (by kernel_rfl) (fun _ _ _ h => h) (Or.inl ⟨by rfl, ?hy6⟩) (by assumption) ?rest6
      case hy6 => (intro w hSw; obtain ⟨p0,p1⟩ := hSw; go_simp; try with_reducible rfl)
      try simp only [Act.put, List.setIfInBounds_toArray, List.set_cons_zero, List.set_cons_succ]
      refine wpAnyH_take (i := 6) (oi := { dst := some 41, op := _, type := _, pos := _, after := _, guard := _ }) (v := ?v7) rfl (by kernel_rfl) (by kernel_rfl) (by kernel_rfl) (fun _ _ _ h => h) (Or.inl ⟨by rfl, ?hy7⟩) (by assumption) ?rest7
      case hy7 => (intro w hSw; obtain ⟨p0,p1⟩ := hSw; go_simp; try with_reducible rfl)
      try simp only [Act.put, List.setIfInBounds_toArray, List.set_cons_zero, List.set_cons_succ]
      refine wpAnyH_take (i := 7) (oi := { dst := some 42, op := _, type := _, pos := _, after := _, guard := _ }) (v := ?v8) rfl (by kernel_rfl) (by kernel_rfl) (by kernel_rfl) (fun _ _ _ h => h) (Or.inl ⟨by rfl, ?hy8⟩) (by assumption) ?rest8
      case hy8 => (intro w hSw; obtain ⟨p0,p1⟩ := hSw; go_simp; try with_reducible rfl)
      try simp only [Act.put, List.setIfInBounds_toArray, List.set_cons_zero, List.set_cons_succ]
      refine wpAnyH_take (i := 8) (oi := { dst := some 43, op := _, type := _, pos := _, after := _, guard := _ }) (v := (.pointer (some ⟨g, ok, none⟩))) rfl (by kernel_rfl) (by kernel_rfl) (by kernel_rfl) (fun _ _ _ h => h) (Or.inl ⟨by rfl, ?hy9⟩) (by assumption) ?rest9
      case hy9 => (intro w hSw; obtain ⟨p0,p1⟩ := hSw; first | (go_simp; done) | (go_simp; simp [*]; done) | (simp [*]; go_simp; done))
      try simp only [Act.put, List.setIfInBounds_toArray, List.set_cons_zero, List.set_cons_succ]
      refine wpAnyH_take (i := 9) (oi := { dst := some 44, op := _, type := _, pos := _, after := _, guard := _ }) (v := (.pointer (some ⟨g, ok + 1, none⟩))) rfl (by kernel_rfl) (by kernel_rfl) (by kernel_rfl) (fun _ _ _ h => h) (Or.inl ⟨by rfl, ?hy10⟩) (by assumption) ?rest10
      case hy10 => (intro w hSw; obtain ⟨p0,p1⟩ := hSw; first | (go_simp; done) | (go_simp; simp [*]; done) | (simp [*]; go_simp; done))
      try simp only [Act.put, List.setIfInBounds_toArray, List.set_cons_zero, List.set_cons_succ]
      refine wpAnyH_take (i := 10) (oi := { dst := some 45, op := _, type := _, pos := _, after := _, guard := _ }) (v := ?v11) rfl (by kernel_rfl) (by kernel_rfl) (by kernel_rfl) (fun _ _ _ h => h) (Or.inl ⟨by rfl, ?hy11⟩) (by assumption) ?rest11
      case hy11 => (intro w hSw; obtain ⟨p0,p1⟩ := hSw; go_simp; try with_reducible rfl)
      try simp only [Act.put, List.setIfInBounds_toArray, List.set_cons_zero, List.set_cons_succ]
      refine wpAnyH_ready (rs := [11]) (by kernel_rfl) (by simp) ?_
      refine AllReadyH.cons (o := { dst := some 46, op := _, type := _, pos := _, after := _, guard := _ }) rfl (fun K hK => ?_) AllReadyH.nil
      go_simp
      refine MS.out.mono ?_
      rintro _ w' ⟨rfl, hcc, KT⟩
      refine hK.out _ _ hcc (fun hHeld => ?_)
      try simp only [Act.put, List.setIfInBounds_toArray, List.set_cons_zero, List.set_cons_succ]
      clear hK hcc MS
      refine wpAnyH_take (i := 12) (oi := { dst := some 34, op := _, type := _, pos := _, after := _, guard := _ }) (v := ?v12) rfl (by kernel_rfl) (by kernel_rfl) (by kernel_rfl) (fun _ _ _ h => h) (Or.inl ⟨by rfl, ?hy12⟩) (by assumption) ?rest12
      case hy12 => (intro w hSw; go_simp; try with_reducible rfl)
      try simp only [Act.put, List.setIfInBounds_toArray, List.set_cons_zero, List.set_cons_succ]
      refine wpAnyH_take (i := 13) (oi := { dst := some 47, op := _, type := _, pos := _, after := _, guard := _ }) (v := ?v13) rfl (by kernel_rfl) (by kernel_rfl) (by kernel_rfl) (fun _ _ _ h => h) (Or.inl ⟨by rfl, ?hy13⟩) (by assumption) ?rest13
      case hy13 => (intro w hSw; go_simp; try with_reducible rfl)
      try simp only [Act.put, List.setIfInBounds_toArray, List.set_cons_zero, List.set_cons_succ]
      refine wpAnyH_take (i := 14) (oi := { dst := some 48, op := _, type := _, pos := _, after := _, guard := _ }) (v := ?v14) rfl (by kernel_rfl) (by kernel_rfl) (by kernel_rfl) (fun _ _ _ h => h) (Or.inl ⟨by rfl, ?hy14⟩) (by assumption) ?rest14
      case hy14 => (intro w hSw; go_simp; try with_reducible rfl)
      try simp only [Act.put, List.setIfInBounds_toArray, List.set_cons_zero, List.set_cons_succ]
      refine wpAnyH_take (i := 15) (oi := { dst := some 12, op := _, type := _, pos := _, after := _, guard := _ }) (v := ?v15) rfl (by kernel_rfl) (by kernel_rfl) (by kernel_rfl) (fun _ _ _ h => h) (Or.inl ⟨by rfl, ?hy15⟩) (by assumption) ?rest15
      case hy15 => (intro w hSw; go_simp; try with_reducible rfl)
      try simp only [Act.put, List.setIfInBounds_toArray, List.set_cons_zero, List.set_cons_succ]
      refine wpAnyH_take (i := 16) (oi := { dst := some 13, op := _, type := _, pos := _, after := _, guard := _ }) (v := ?v16) rfl (by kernel_rfl) (by kernel_rfl) (by kernel_rfl) (fun _ _ _ h => h) (Or.inl ⟨by rfl, ?hy16⟩) (by assumption) ?rest16
      case hy16 => (intro w hSw; go_simp; try with_reducible rfl)
      try simp only [Act.put, List.setIfInBounds_toArray, List.set_cons_zero, List.set_cons_succ]
      refine wpAnyH_done (by kernel_rfl) ?_ _
      clear hHeld HS
      go_wp2
      go_roundg m
      case measure => have := HG1.out; omega
      case rel => exact ⟨m, by first | rfl | simp, by have := HK1.out; omega, Nat.le_refl _, KT.out⟩
    · obtain rfl : k = 0 := by omega
      have hz : ((0 : Nat) : Int) - 1 = -1 := rfl
      rw [hz]
      have hEq : L2 = L := by
        refine ris_eq hT.2.1.math.1 HM.out.1 (perm_mem hT.2.1.math.2.2.2 HM.out.2.2.2 (fun e => ?_))
        rw [hmem e, List.drop_zero, HBt.out.2.2.2.1 e]
      subst hEq
      have mL := klen_any hT.1
      have mR := krange_all hT.1
      rw [HN.out] at mL mR
      have HTT := keep hT
      clear hT hmem KI hz
      go_wp2_with fail
      refine mL.mono ?_
      rintro _ _ ⟨rfl, hw⟩
      obtain rfl := hw.symm
      clear mL
      go_wp2_with fail
      refine mR.mono ?_
      rintro _ w5 ⟨⟨o5, c5, rfl, hM5⟩, hb5⟩
      have hT5 := HTT.out.below hb5
      have mL := klen_any hT5.2.1
      have mR2 := krange_all hT5.2.1
      rw [HN.out] at mL mR2
      have HT5 := keep hT5
      have HM5 := keep hM5
      clear mR hM5 hb5 hT5
      go_wp2_with fail
      refine mL.mono ?_
      rintro _ _ ⟨rfl, hw⟩
      obtain rfl := hw.symm
      clear mL
      go_wp2_with fail
      refine mR2.mono ?_
      rintro _ w6 ⟨⟨o6, c6, rfl, hM6⟩, hb6⟩
      have hM5' : Mr wr.heap.size w6 (.slice o5 n c5) L2 := own_kept HM5.out (fun k hk => hb6.block k (own_lt HM5.out hk))
      have hT6 := HT5.out.below hb6
      have mS := rsame_any w6 _ _ n c5 c6 o5 o6 L2 hM5' hM6 HN.out (by have := HN1.out; omega)
      have HT6 := keep hT6
      clear mR2 hM6 hb6 hT6 hM5'
      go_wp2_with fail
      refine mS.mono ?_
      rintro _ w7 ⟨rfl, hb7⟩
      have hT7 := HT6.out.below hb7
      have mC1 := kcost_any hT7.1
      have mC2 := kcost_any hT7.2.1
      have HT7 := keep hT7
      clear mS hb7 hT7
      go_wp2_with fail
      refine mC1.mono ?_
      rintro _ _ ⟨rfl, hw⟩
      obtain rfl := hw.symm
      clear mC1
      go_wp2_with fail
      refine mC2.mono ?_
      rintro _ _ ⟨rfl, hw⟩
      obtain rfl := hw.symm
      clear mC2
      go_wp2
      go_ret
      exact ⟨by simp, HT7.out.2.2.2.2.2.2.2⟩
end Go.Proofs.Ytcknmenhjipaeaa
