/-
  The walk of DictSeeds: two dicts of any seeds side by side, and what each call tells of both.
-/
import Derived.Test.YtbcmahhpdpdmcaaDictOpen
namespace Go.Proofs.Ytbcmahhpdpdmcaa
open Go.RowKit Go.Shelf
/-- two dicts whose blocks are apart, and apart from what lay in W -/
def Duo (W w : World) (ra rb : Roles) : Prop := Below W.heap.size W w ∧ (∀ k, ra k = (0, 0) ∨ rb k = (0, 0)) ∧ ∀ k, k < W.heap.size → ra k = (0, 0) ∧ rb k = (0, 0)
theorem Duo.swap {W w : World} {ra rb : Roles} (h : Duo W w ra rb) : Duo W w rb ra := ⟨h.1, fun k => (h.2.1 k).symm, fun k hk => (h.2.2 k hk).symm⟩
theorem Duo.drew {W w : World} {ra rb : Roles} (h : Duo W w ra rb) : Duo W w.drew ra rb := ⟨h.1.drew, h.2⟩
theorem Duo.below {W w w' : World} {ra rb : Roles} (h : Duo W w ra rb) (hb : Below w.heap.size w w') : Duo W w' ra rb := ⟨h.1.trans (hb.mono h.1.size), h.2⟩
theorem Duo.a {W w w' : World} {ra rb ra' : Roles} (hD : Duo W w ra rb) (hb : ∀ k, rb k ≠ (0, 0) → k < w.heap.size) (hf : Fr w ra w' ra') : Duo W w' ra' rb ∧ ∀ k, k < w.heap.size → rb k ≠ (0, 0) → w'.heap[k]? = w.heap[k]? := by
  have hs := hD.1.size
  have hz : ∀ k, rb k ≠ (0, 0) → ra k = (0, 0) := fun k hk => by
    rcases hD.2.1 k with h | h
    · exact h
    · exact absurd h hk
  refine ⟨⟨hD.1.trans (hf.below hs (fun k hk => (hD.2.2 k hk).1)), fun k => ?_, fun k hk => ⟨(hf.2.2 k (by omega) (hD.2.2 k hk).1).2, (hD.2.2 k hk).2⟩⟩, fun k hk hr => (hf.2.2 k hk (hz k hr)).1⟩
  by_cases h : rb k = (0, 0)
  · exact .inr h
  · exact .inl (hf.2.2 k (hb k h) (hz k h)).2
theorem Duo.b {W w w' : World} {ra rb rb' : Roles} (hD : Duo W w ra rb) (ha : ∀ k, ra k ≠ (0, 0) → k < w.heap.size) (hf : Fr w rb w' rb') : Duo W w' ra rb' ∧ ∀ k, k < w.heap.size → ra k ≠ (0, 0) → w'.heap[k]? = w.heap[k]? := by
  obtain ⟨h1, h2⟩ := hD.swap.a ha hf
  exact ⟨h1.swap, h2⟩
def Same (sa sb : Dc.St ByteArray Int) : Prop := (∀ k, lk sb k = lk sa k) ∧ ln sb = ln sa
theorem same_set {sa sb sa' sb' : Dc.St ByteArray Int} {key : ByteArray} {v : Int} (h : Same sa sb) (ha : Setd sa sa' key v) (hb : Setd sb sb' key v) : Same sa' sb' := ⟨fun k => by rw [ha.1, hb.1, h.1], by rw [ha.2, hb.2, h.1, h.2]⟩
theorem same_del {sa sb sa' sb' : Dc.St ByteArray Int} {key : ByteArray} (h : Same sa sb) (ha : Deld sa sa' key) (hb : Deld sb sb' key) : Same sa' sb' := ⟨fun k => by rw [ha.1, hb.1, h.1], by rw [ha.2, hb.2, h.1, h.2]⟩
theorem same_get {sa sb sa' sb' : Dc.St ByteArray Int} (h : Same sa sb) (ha : Samd sa sa') (hb : Samd sb sb') : Same sa' sb' := ⟨fun k => by rw [ha.1, hb.1, h.1], by rw [ha.2, hb.2, h.2]⟩
theorem same_refl (s : Dc.St ByteArray Int) : Same s s := ⟨fun _ => rfl, rfl⟩
/-- the step's own box -/
def heldO (B : Nat) (key : ByteArray) (v : Int) (w : World) : Prop := w.cell? ⟨B, 3, none⟩ = some (.int .i64 v) ∧ w.cell? ⟨B, 4, none⟩ = some (.string key)
theorem heldO_kept {B : Nat} {key : ByteArray} {v : Int} {w w' : World} (h : heldO B key v w) (hk : w'.heap[B]? = w.heap[B]?) : heldO B key v w' :=
  ⟨(World.cell?_of_block (w := w) (a := ⟨B, 3, none⟩) hk).trans h.1, (World.cell?_of_block (w := w) (a := ⟨B, 4, none⟩) hk).trans h.2⟩
theorem stp_new (w : World) (o : Stp) : StpAt (w.alloc (.cells o.cells 33)) ⟨w.heap.size, 0, none⟩ o := by
  have h := heap_alloc_new w (.cells o.cells 33)
  refine ⟨?_, ?_, ?_, ?_, ?_, ?_⟩ <;> (rw [cell_of_row _ _ _ _ _ _ h]; rfl)
set_option maxRecDepth 100000 in
set_option maxHeartbeats 4000000 in
theorem seeds_walk {ha hb : ByteArray → Nat} (W : World) (one two : Nat) (hHa : HashIs one ha) (hHb : HashIs two hb) (so : Option Addr) (cs : Nat) (S : List Stp) (hS : Steps W so S) (hn : S.length ≤ 2513169434844) :
    Calls Try.prog 7 #[.int .u64 one, .int .u64 two, .slice so S.length cs] W fun e w' => e = .returned (.bool true) ∧ Below W.heap.size W w' := by
  obtain ⟨L, hL⟩ : ∃ L, S.length = L := ⟨_, rfl⟩
  rw [hL] at hn ⊢
  have HL := keep hL
  have HS := keep hS
  clear hL hS
  go_enter Try.func7, Try.ntmps7
  go_wp2_with fail
  refine (wakes_any _).mono ?_
  rintro _ w0 ⟨rfl, hb0⟩
  go_wp2_with fail
  refine (new_any ha w0 one 0).mono ?_
  rintro _ w1 ⟨rfl, hb1, hz1, hd1⟩
  go_wp2_with fail
  refine (new_any hb w1 two 0).mono ?_
  rintro _ w2 ⟨rfl, hb2, hz2, hd2⟩
  have hbW := hb0.size
  have HA := keep (hd1.below hb2)
  have HB := keep hd2
  have HDUO : Kept (Duo W w2 (fun k => if k = w0.heap.size then (5, 0) else (0, 0)) (fun k => if k = w1.heap.size then (5, 0) else (0, 0))) := by
    refine ⟨(hb0.trans (hb1.mono hbW)).trans (hb2.mono (by omega)), fun k => ?_, fun k hk => ⟨if_neg (by omega), if_neg (by omega)⟩⟩
    by_cases e : k = w0.heap.size
    · exact .inr (if_neg (by omega))
    · exact .inl (if_neg e)
  generalize (fun k => if k = w0.heap.size then (5, 0) else (0, 0) : Roles) = ra0 at HA HDUO
  generalize (fun k => if k = w1.heap.size then (5, 0) else (0, 0) : Roles) = rb0 at HB HDUO
  obtain ⟨ba, hba⟩ : ∃ x, x = w0.heap.size := ⟨_, rfl⟩
  obtain ⟨bb, hbb⟩ : ∃ x, x = w1.heap.size := ⟨_, rfl⟩
  rw [← hba] at HA ⊢
  rw [← hbb] at HB ⊢
  clear hb0 hb1 hb2 hz1 hz2 hd1 hd2 hba hbb hbW
  go_wp2
  go_loopw [23] (fun i wr => ∃ k : Nat, k ≤ L ∧ i = .int .i64 k ∧ ∃ ra rb sa sb, Kept (Dd ha k wr ra ba one sa) ∧ Kept (Dd hb k wr rb bb two sb) ∧ Kept (Duo W wr ra rb) ∧ Kept (Same sa sb)) (fun i _ => L - (intOf i).toNat)
  case atStart => exact ⟨0, Nat.zero_le _, rfl, ra0, rb0, _, _, HA, HB, HDUO, same_refl _⟩
  case round =>
    obtain ⟨k, hk, rfl, ra, rb, sa, sb, PA0, PB0, PD0, PS⟩ := hrel
    by_cases hlt : k < L
    · have hltz : (k : Int) < (L : Int) := by omega
      obtain ⟨a, rfl, hab, hky, _, hst0⟩ := HS.out k (by rw [HL.out]; exact hlt)
      have hst := hst0.bel PD0.out.1 (by rw [add_block]; exact hab)
      clear hst0
      have hnew := stp_new wr (S[k]'(by rw [HL.out]; exact hlt))
      generalize S[k]'(by rw [HL.out]; exact hlt) = o at hst hky hnew
      obtain ⟨who, op, nn, v, key, R⟩ := o
      obtain ⟨t0, t1, t2, t3, t4, t5⟩ := hst
      dsimp only at t0 t1 t2 t3 t4 t5 hky
      have hbx := (Below.refl wr.heap.size wr).alloc (Nat.le_refl _) (.cells (Stp.cells ⟨who, op, nn, v, key, R⟩) 33)
      have PA := keep (PA0.out.below hbx)
      have PB := keep (PB0.out.below hbx)
      have PD := keep (PD0.out.below hbx)
      have hHa0 : ra wr.heap.size = (0, 0) := Classical.byContradiction fun hh => by have := PA0.out.1.1 _ hh; omega
      have hHb0 : rb wr.heap.size = (0, 0) := Classical.byContradiction fun hh => by have := PB0.out.1.1 _ hh; omega
      have hH1 : wr.heap.size < (wr.alloc (.cells (Stp.cells ⟨who, op, nn, v, key, R⟩) 33)).heap.size := by simp
      have HO : heldO wr.heap.size key v (wr.alloc (.cells (Stp.cells ⟨who, op, nn, v, key, R⟩) 33)) := ⟨hnew.2.2.2.1, hnew.2.2.2.2.1⟩
      have hop := hnew.2.1
      have hkey : (wr.alloc (.cells (Stp.cells ⟨who, op, nn, v, key, R⟩) 33)).cell? ⟨wr.heap.size, 4, none⟩ = some (.string key) := hnew.2.2.2.2.1
      clear hnew hbx PA0 PB0 PD0
      dsimp only at hop
      unfold Stp.cells at PA PB PD hH1 HO hop hkey
      dsimp only at PA PB PD hH1 HO hop hkey
      obtain ⟨W1, hW1⟩ : ∃ W1, W1 = wr.alloc (.cells #[.int .i64 who, .int .i64 op, .int .i64 nn, .int .i64 v, .string key, .int .u64 R] 33) := ⟨_, rfl⟩
      obtain ⟨W1h, hW1h⟩ : ∃ x, x = wr.heap.size := ⟨_, rfl⟩
      rw [← hW1] at PA PB PD hH1 HO hop hkey
      rw [← hW1h] at hHa0 hHb0 hH1 HO hop hkey
      have hN1 : k + 1 ≤ 2600000000000 := by omega
      have hop : W1.cell? ⟨W1h, 1, none⟩ = some (.int .i64 op) := hop
      have hW1' := hW1.symm
      have hW1h' := hW1h.symm
      clear hW1 hW1h
      by_cases c0 : (op == 0) = true
      · have mA := set_t hHa (W1.drew) ra ba sa key v (PA.out.below (Below.refl _ _).drew) hN1 hky
        have hsame : (lk sb key).isNone = (lk sa key).isNone := by rw [PS.out.1]
        generalize hx : (lk sa key).isNone = x at mA hsame
        clear hx
        go_wp2_with fail
        refine wp_region_held_drew (S := heldO W1h key v) (by kernel_rfl) HO (fun hHeld => ?_)
        refine wpAnyH_take (i := 0) (oi := { dst := some 31, op := _, type := _, pos := _, after := _, guard := _ }) (v := ?v1) rfl (by kernel_rfl) (by kernel_rfl) (by kernel_rfl) (fun _ _ _ h => h) (Or.inl ⟨by rfl, ?hy1⟩) (by assumption) ?rest1
        case hy1 => (intro w hSw; obtain ⟨q0, q1⟩ := hSw; go_simp; try with_reducible rfl)
        try simp only [Act.put, List.setIfInBounds_toArray, List.set_cons_zero, List.set_cons_succ]
        refine wpAnyH_take (i := 1) (oi := { dst := some 32, op := _, type := _, pos := _, after := _, guard := _ }) (v := ?v2) rfl (by kernel_rfl) (by kernel_rfl) (by kernel_rfl) (fun _ _ _ h => h) (Or.inl ⟨by rfl, ?hy2⟩) (by assumption) ?rest2
        case hy2 => (intro w hSw; obtain ⟨q0, q1⟩ := hSw; go_simp; try with_reducible rfl)
        try simp only [Act.put, List.setIfInBounds_toArray, List.set_cons_zero, List.set_cons_succ]
        refine wpAnyH_take (i := 2) (oi := { dst := some 33, op := _, type := _, pos := _, after := _, guard := _ }) (v := ?v3) rfl (by kernel_rfl) (by kernel_rfl) (by kernel_rfl) (fun _ _ _ h => h) (Or.inl ⟨by rfl, ?hy3⟩) (by assumption) ?rest3
        case hy3 => (intro w hSw; obtain ⟨q0, q1⟩ := hSw; go_simp; try with_reducible rfl)
        try simp only [Act.put, List.setIfInBounds_toArray, List.set_cons_zero, List.set_cons_succ]
        refine wpAnyH_take (i := 3) (oi := { dst := some 34, op := _, type := _, pos := _, after := _, guard := _ }) (v := ?v4) rfl (by kernel_rfl) (by kernel_rfl) (by kernel_rfl) (fun _ _ _ h => h) (Or.inl ⟨by rfl, ?hy4⟩) (by assumption) ?rest4
        case hy4 => (intro w hSw; obtain ⟨q0, q1⟩ := hSw; go_simp; try with_reducible rfl)
        try simp only [Act.put, List.setIfInBounds_toArray, List.set_cons_zero, List.set_cons_succ]
        refine wpAnyH_take (i := 4) (oi := { dst := some 35, op := _, type := _, pos := _, after := _, guard := _ }) (v := ?v5) rfl (by kernel_rfl) (by kernel_rfl) (by kernel_rfl) (fun _ _ _ h => h) (Or.inl ⟨by rfl, ?hy5⟩) (by assumption) ?rest5
        case hy5 => (intro w hSw; obtain ⟨q0, q1⟩ := hSw; go_simp; try with_reducible rfl)
        try simp only [Act.put, List.setIfInBounds_toArray, List.set_cons_zero, List.set_cons_succ]
        refine wpAnyH_take (i := 6) (oi := { dst := some 37, op := _, type := _, pos := _, after := _, guard := _ }) (v := ?v6) rfl (by kernel_rfl) (by kernel_rfl) (by kernel_rfl) (fun _ _ _ h => h) (Or.inl ⟨by rfl, ?hy6⟩) (by assumption) ?rest6
        case hy6 => (intro w hSw; obtain ⟨q0, q1⟩ := hSw; go_simp; try with_reducible rfl)
        try simp only [Act.put, List.setIfInBounds_toArray, List.set_cons_zero, List.set_cons_succ]
        refine wpAnyH_take (i := 7) (oi := { dst := some 38, op := _, type := _, pos := _, after := _, guard := _ }) (v := ?v7) rfl (by kernel_rfl) (by kernel_rfl) (by kernel_rfl) (fun _ _ _ h => h) (Or.inl ⟨by rfl, ?hy7⟩) (by assumption) ?rest7
        case hy7 => (intro w hSw; obtain ⟨q0, q1⟩ := hSw; go_simp; try with_reducible rfl)
        try simp only [Act.put, List.setIfInBounds_toArray, List.set_cons_zero, List.set_cons_succ]
        refine wpAnyH_take (i := 8) (oi := { dst := some 39, op := _, type := _, pos := _, after := _, guard := _ }) (v := ?v8) rfl (by kernel_rfl) (by kernel_rfl) (by kernel_rfl) (fun _ _ _ h => h) (Or.inl ⟨by rfl, ?hy8⟩) (by assumption) ?rest8
        case hy8 => (intro w hSw; obtain ⟨q0, q1⟩ := hSw; go_simp; try with_reducible rfl)
        try simp only [Act.put, List.setIfInBounds_toArray, List.set_cons_zero, List.set_cons_succ]
        refine wpAnyH_take (i := 9) (oi := { dst := some 40, op := _, type := _, pos := _, after := _, guard := _ }) (v := ?v9) rfl (by kernel_rfl) (by kernel_rfl) (by kernel_rfl) (fun _ _ _ h => h) (Or.inl ⟨by rfl, ?hy9⟩) (by assumption) ?rest9
        case hy9 => (intro w hSw; obtain ⟨q0, q1⟩ := hSw; go_simp; try with_reducible rfl)
        try simp only [Act.put, List.setIfInBounds_toArray, List.set_cons_zero, List.set_cons_succ]
        refine wpAnyH_take (i := 10) (oi := { dst := some 41, op := _, type := _, pos := _, after := _, guard := _ }) (v := ?v10) rfl (by kernel_rfl) (by kernel_rfl) (by kernel_rfl) (fun _ _ _ h => h) (Or.inl ⟨by rfl, ?hy10⟩) (by assumption) ?rest10
        case hy10 => (intro w hSw; obtain ⟨q0, q1⟩ := hSw; go_simp; try with_reducible rfl)
        try simp only [Act.put, List.setIfInBounds_toArray, List.set_cons_zero, List.set_cons_succ]
        refine wpAnyH_ready (rs := [5]) (by kernel_rfl) (by simp) ?_
        refine AllReadyH.cons (o := { dst := some 36, op := _, type := _, pos := _, after := _, guard := _ }) rfl (fun K hK => ?_) AllReadyH.nil
        go_simp
        refine mA.mono ?_
        rintro _ w2 ⟨rfl, ra2, sa2, hA2, hT2, hF2⟩
        obtain ⟨hduo2, hkp2⟩ := PD.out.drew.a PB.out.1.1 hF2
        have hB2 := (PB.out.below (w' := W1.drew) (Below.refl _ _).drew).kept hF2.2.1 hkp2
        have hO2 : heldO W1h key v w2 := heldO_kept HO (hF2.2.2 _ hH1 hHa0).1
        have hHb2 : W1h < w2.heap.size := Nat.lt_of_lt_of_le hH1 hF2.2.1
        have mB := set_t hHb w2 rb bb sb key v hB2 hN1 hky
        rw [hsame] at mB
        refine hK.out _ _ hO2 (fun hHeld => ?_)
        try simp only [Act.put, List.setIfInBounds_toArray, List.set_cons_zero, List.set_cons_succ]
        clear mA hK
        refine wpAnyH_ready (rs := [11]) (by kernel_rfl) (by simp) ?_
        refine AllReadyH.cons (o := { dst := some 42, op := _, type := _, pos := _, after := _, guard := _ }) rfl (fun K hK => ?_) AllReadyH.nil
        go_simp
        refine mB.mono ?_
        rintro _ w3 ⟨rfl, rb3, sb3, hB3, hT3, hF3⟩
        obtain ⟨hduo3, hkp3⟩ := hduo2.b hA2.1.1 hF3
        have hA3 := hA2.kept hF3.2.1 hkp3
        refine hK.out _ _ (heldO_kept hO2 (hF3.2.2 _ hHb2 hHb0).1) (fun hHeld => ?_)
        try simp only [Act.put, List.setIfInBounds_toArray, List.set_cons_zero, List.set_cons_succ]
        clear mB hK
        refine wpAnyH_take (i := 12) (oi := { dst := some 43, op := _, type := _, pos := _, after := _, guard := _ }) (v := (.bool false)) rfl (by kernel_rfl) (by kernel_rfl) (by kernel_rfl) (fun _ _ _ h => h) (Or.inl ⟨by rfl, ?hy11⟩) (by assumption) ?rest11
        case hy11 => (intro w hSw; first | (go_simp; done) | (go_simp; simp [*]; done) | (simp [*]; go_simp; done))
        try simp only [Act.put, List.setIfInBounds_toArray, List.set_cons_zero, List.set_cons_succ]
        refine wpAnyH_done (by kernel_rfl) ?_ _
        have hQ : Same sa2 sb3 := same_set PS.out hT2 hT3
        have HDUO := keep hduo3
        clear hduo2 hduo3 hB2 hA2 hkp2 hkp3 hO2 hT2 hT3 hF2 hF3 hHeld
        go_wp2_with fail
        refine (len_t _ _ _ _ hA3).mono ?_
        rintro _ w' ⟨rfl, hw'⟩
        subst hw'
        have hle : ((ln sb3 : Nat) : Int) = ((ln sa2 : Nat) : Int) := by rw [hQ.2]
        have mZ := len_t _ _ _ _ hB3
        rw [hle] at mZ
        have HA3 := keep hA3
        have HB3 := keep hB3
        have HQ := keep hQ
        clear hA3 hB3 hQ hle
        go_wp2_with fail
        refine mZ.mono ?_
        rintro _ w' ⟨rfl, hw'⟩
        subst hw'
        clear mZ
        go_wp2
        go_roundw
        case measure => simp [intOf]; omega
        case rel => exact ⟨k + 1, by omega, by go_num, _, _, _, _, HA3, HB3, HDUO, HQ⟩
      · have c0 : (op == 0) = false := by simpa using c0
        by_cases c1 : (op == 1) = true
        · have mA := get_t hHa W1 ra ba sa key PA.out (by omega) hky
          have hsame : lk sb key = lk sa key := PS.out.1 key
          generalize hx : lk sa key = x at mA hsame
          clear hx
          go_wp2_with fail
          refine mA.mono ?_
          rintro _ w2 ⟨rfl, ra2, sa2, hA2, hT2, hF2⟩
          obtain ⟨hduo2, hkp2⟩ := PD.out.a PB.out.1.1 hF2
          have hB2 := PB.out.kept hF2.2.1 hkp2
          have hO2 : heldO W1h key v w2 := heldO_kept HO (hF2.2.2 _ hH1 hHa0).1
          have hkey2 : w2.cell? ⟨W1h, 4, none⟩ = some (.string key) := hO2.2
          have mB := get_t hHb w2 rb bb sb key hB2 (by omega) hky
          rw [hsame] at mB
          clear mA hO2
          unfold got
          go_wp2_with fail
          refine mB.mono ?_
          rintro _ w3 ⟨rfl, rb3, sb3, hB3, hT3, hF3⟩
          obtain ⟨hduo3, hkp3⟩ := hduo2.b hA2.1.1 hF3
          have hA3 := (hA2.kept hF3.2.1 hkp3).more (Nat.le_succ k)
          replace hB3 := hB3.more (Nat.le_succ k)
          have hQ : Same sa2 sb3 := same_get PS.out hT2 hT3
          have HDUO := keep hduo3
          clear hduo2 hduo3 hB2 hA2 hkp2 hkp3 hT2 hT3 hF2 hF3 mB
          unfold got
          go_wp2_with fail
          refine (len_t _ _ _ _ hA3).mono ?_
          rintro _ w' ⟨rfl, hw'⟩
          subst hw'
          have hle : ((ln sb3 : Nat) : Int) = ((ln sa2 : Nat) : Int) := by rw [hQ.2]
          have mZ := len_t _ _ _ _ hB3
          rw [hle] at mZ
          have HA3 := keep hA3
          have HB3 := keep hB3
          have HQ := keep hQ
          clear hA3 hB3 hQ hle
          go_wp2_with fail
          refine mZ.mono ?_
          rintro _ w' ⟨rfl, hw'⟩
          subst hw'
          clear mZ
          go_wp2
          go_roundw
          case measure => simp [intOf]; omega
          case rel => exact ⟨k + 1, by omega, by go_num, _, _, _, _, HA3, HB3, HDUO, HQ⟩
        · have c1 : (op == 1) = false := by simpa using c1
          by_cases c2 : (op == 2) = true
          · have mA := del_t hHa (W1.drew) ra ba sa key (PA.out.below (Below.refl _ _).drew) hN1 hky
            have hsame : (lk sb key).isSome = (lk sa key).isSome := by rw [PS.out.1]
            generalize hx : (lk sa key).isSome = x at mA hsame
            clear hx
            go_wp2_with fail
            refine wp_region_held_drew (S := heldO W1h key v) (by kernel_rfl) HO (fun hHeld => ?_)
            refine wpAnyH_take (i := 0) (oi := { dst := some 70, op := _, type := _, pos := _, after := _, guard := _ }) (v := ?v12) rfl (by kernel_rfl) (by kernel_rfl) (by kernel_rfl) (fun _ _ _ h => h) (Or.inl ⟨by rfl, ?hy12⟩) (by assumption) ?rest12
            case hy12 => (intro w hSw; obtain ⟨q0, q1⟩ := hSw; go_simp; try with_reducible rfl)
            try simp only [Act.put, List.setIfInBounds_toArray, List.set_cons_zero, List.set_cons_succ]
            refine wpAnyH_take (i := 1) (oi := { dst := some 71, op := _, type := _, pos := _, after := _, guard := _ }) (v := ?v13) rfl (by kernel_rfl) (by kernel_rfl) (by kernel_rfl) (fun _ _ _ h => h) (Or.inl ⟨by rfl, ?hy13⟩) (by assumption) ?rest13
            case hy13 => (intro w hSw; obtain ⟨q0, q1⟩ := hSw; go_simp; try with_reducible rfl)
            try simp only [Act.put, List.setIfInBounds_toArray, List.set_cons_zero, List.set_cons_succ]
            refine wpAnyH_take (i := 2) (oi := { dst := some 72, op := _, type := _, pos := _, after := _, guard := _ }) (v := ?v14) rfl (by kernel_rfl) (by kernel_rfl) (by kernel_rfl) (fun _ _ _ h => h) (Or.inl ⟨by rfl, ?hy14⟩) (by assumption) ?rest14
            case hy14 => (intro w hSw; obtain ⟨q0, q1⟩ := hSw; go_simp; try with_reducible rfl)
            try simp only [Act.put, List.setIfInBounds_toArray, List.set_cons_zero, List.set_cons_succ]
            refine wpAnyH_take (i := 4) (oi := { dst := some 74, op := _, type := _, pos := _, after := _, guard := _ }) (v := ?v15) rfl (by kernel_rfl) (by kernel_rfl) (by kernel_rfl) (fun _ _ _ h => h) (Or.inl ⟨by rfl, ?hy15⟩) (by assumption) ?rest15
            case hy15 => (intro w hSw; obtain ⟨q0, q1⟩ := hSw; go_simp; try with_reducible rfl)
            try simp only [Act.put, List.setIfInBounds_toArray, List.set_cons_zero, List.set_cons_succ]
            refine wpAnyH_take (i := 5) (oi := { dst := some 75, op := _, type := _, pos := _, after := _, guard := _ }) (v := ?v16) rfl (by kernel_rfl) (by kernel_rfl) (by kernel_rfl) (fun _ _ _ h => h) (Or.inl ⟨by rfl, ?hy16⟩) (by assumption) ?rest16
            case hy16 => (intro w hSw; obtain ⟨q0, q1⟩ := hSw; go_simp; try with_reducible rfl)
            try simp only [Act.put, List.setIfInBounds_toArray, List.set_cons_zero, List.set_cons_succ]
            refine wpAnyH_take (i := 6) (oi := { dst := some 76, op := _, type := _, pos := _, after := _, guard := _ }) (v := ?v17) rfl (by kernel_rfl) (by kernel_rfl) (by kernel_rfl) (fun _ _ _ h => h) (Or.inl ⟨by rfl, ?hy17⟩) (by assumption) ?rest17
            case hy17 => (intro w hSw; obtain ⟨q0, q1⟩ := hSw; go_simp; try with_reducible rfl)
            try simp only [Act.put, List.setIfInBounds_toArray, List.set_cons_zero, List.set_cons_succ]
            refine wpAnyH_ready (rs := [3]) (by kernel_rfl) (by simp) ?_
            refine AllReadyH.cons (o := { dst := some 73, op := _, type := _, pos := _, after := _, guard := _ }) rfl (fun K hK => ?_) AllReadyH.nil
            go_simp
            refine mA.mono ?_
            rintro _ w2 ⟨rfl, ra2, sa2, hA2, hT2, hF2⟩
            obtain ⟨hduo2, hkp2⟩ := PD.out.drew.a PB.out.1.1 hF2
            have hB2 := (PB.out.below (w' := W1.drew) (Below.refl _ _).drew).kept hF2.2.1 hkp2
            have hO2 : heldO W1h key v w2 := heldO_kept HO (hF2.2.2 _ hH1 hHa0).1
            have hHb2 : W1h < w2.heap.size := Nat.lt_of_lt_of_le hH1 hF2.2.1
            have mB := del_t hHb w2 rb bb sb key hB2 hN1 hky
            rw [hsame] at mB
            refine hK.out _ _ hO2 (fun hHeld => ?_)
            try simp only [Act.put, List.setIfInBounds_toArray, List.set_cons_zero, List.set_cons_succ]
            clear mA hK
            refine wpAnyH_ready (rs := [7]) (by kernel_rfl) (by simp) ?_
            refine AllReadyH.cons (o := { dst := some 77, op := _, type := _, pos := _, after := _, guard := _ }) rfl (fun K hK => ?_) AllReadyH.nil
            go_simp
            refine mB.mono ?_
            rintro _ w3 ⟨rfl, rb3, sb3, hB3, hT3, hF3⟩
            obtain ⟨hduo3, hkp3⟩ := hduo2.b hA2.1.1 hF3
            have hA3 := hA2.kept hF3.2.1 hkp3
            refine hK.out _ _ (heldO_kept hO2 (hF3.2.2 _ hHb2 hHb0).1) (fun hHeld => ?_)
            try simp only [Act.put, List.setIfInBounds_toArray, List.set_cons_zero, List.set_cons_succ]
            clear mB hK
            refine wpAnyH_take (i := 8) (oi := { dst := some 78, op := _, type := _, pos := _, after := _, guard := _ }) (v := (.bool false)) rfl (by kernel_rfl) (by kernel_rfl) (by kernel_rfl) (fun _ _ _ h => h) (Or.inl ⟨by rfl, ?hy18⟩) (by assumption) ?rest18
            case hy18 => (intro w hSw; first | (go_simp; done) | (go_simp; simp [*]; done) | (simp [*]; go_simp; done))
            try simp only [Act.put, List.setIfInBounds_toArray, List.set_cons_zero, List.set_cons_succ]
            refine wpAnyH_done (by kernel_rfl) ?_ _
            have hQ : Same sa2 sb3 := same_del PS.out hT2 hT3
            have HDUO := keep hduo3
            clear hduo2 hduo3 hB2 hA2 hkp2 hkp3 hO2 hT2 hT3 hF2 hF3 hHeld
            replace hA3 := hA3.more (Nat.le_succ k)
            replace hB3 := hB3.more (Nat.le_succ k)
            go_wp2_with fail
            refine (len_t _ _ _ _ hA3).mono ?_
            rintro _ w' ⟨rfl, hw'⟩
            subst hw'
            have hle : ((ln sb3 : Nat) : Int) = ((ln sa2 : Nat) : Int) := by rw [hQ.2]
            have mZ := len_t _ _ _ _ hB3
            rw [hle] at mZ
            have HA3 := keep hA3
            have HB3 := keep hB3
            have HQ := keep hQ
            clear hA3 hB3 hQ hle
            go_wp2_with fail
            refine mZ.mono ?_
            rintro _ w' ⟨rfl, hw'⟩
            subst hw'
            clear mZ
            go_wp2
            go_roundw
            case measure => simp [intOf]; omega
            case rel => exact ⟨k + 1, by omega, by go_num, _, _, _, _, HA3, HB3, HDUO, HQ⟩
          · have c2 : (op == 2) = false := by simpa using c2
            by_cases c3 : (op == 3) = true
            · have mA := clear_any ha W1 ra ba one _ (k + 1) sa PA.out.1
              go_wp2_with fail
              refine mA.mono ?_
              rintro _ w2 ⟨rfl, hA2, hF2⟩
              obtain ⟨hduo2, hkp2⟩ := PD.out.a PB.out.1.1 hF2
              have hB2 := PB.out.kept hF2.2.1 hkp2
              have mB := clear_any hb w2 rb bb two _ (k + 1) sb hB2.1
              clear mA
              go_wp2_with fail
              refine mB.mono ?_
              rintro _ w3 ⟨rfl, hB3, hF3⟩
              obtain ⟨hduo3, hkp3⟩ := hduo2.b hA2.1.1 hF3
              have hA3 := hA2.kept hF3.2.1 hkp3
              have hQ : Same Dc.none0 Dc.none0 := same_refl _
              have HDUO := keep hduo3
              clear hduo2 hduo3 hB2 hA2 hkp2 hkp3 hF2 hF3 mB
              go_wp2_with fail
              refine (len_t _ _ _ _ hA3).mono ?_
              rintro _ w' ⟨rfl, hw'⟩
              subst hw'
              have hle : ((ln Dc.none0 : Nat) : Int) = ((ln Dc.none0 : Nat) : Int) := by rw [hQ.2]
              have mZ := len_t _ _ _ _ hB3
              rw [hle] at mZ
              have HA3 := keep hA3
              have HB3 := keep hB3
              have HQ := keep hQ
              clear hA3 hB3 hQ hle
              go_wp2_with fail
              refine mZ.mono ?_
              rintro _ w' ⟨rfl, hw'⟩
              subst hw'
              clear mZ
              go_wp2
              go_roundw
              case measure => simp [intOf]; omega
              case rel => exact ⟨k + 1, by omega, by go_num, _, _, _, _, HA3, HB3, HDUO, HQ⟩
            · have c3 : (op == 3) = false := by simpa using c3
              have hA3 := PA.out.more (Nat.le_succ k)
              have hB3 := PB.out.more (Nat.le_succ k)
              have hQ : Same sa sb := PS.out
              have HDUO := PD
              go_wp2_with fail
              refine (len_t _ _ _ _ hA3).mono ?_
              rintro _ w' ⟨rfl, hw'⟩
              subst hw'
              have hle : ((ln sb : Nat) : Int) = ((ln sa : Nat) : Int) := by rw [hQ.2]
              have mZ := len_t _ _ _ _ hB3
              rw [hle] at mZ
              have HA3 := keep hA3
              have HB3 := keep hB3
              have HQ := keep hQ
              clear hA3 hB3 hQ hle
              go_wp2_with fail
              refine mZ.mono ?_
              rintro _ w' ⟨rfl, hw'⟩
              subst hw'
              clear mZ
              go_wp2
              go_roundw
              case measure => simp [intOf]; omega
              case rel => exact ⟨k + 1, by omega, by go_num, _, _, _, _, HA3, HB3, HDUO, HQ⟩
    · have hltz : ¬ (k : Int) < (L : Int) := by omega
      go_wp2
      go_ret
      exact ⟨rfl, PD0.out.1⟩
end Go.Proofs.Ytbcmahhpdpdmcaa
