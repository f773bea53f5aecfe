/-
  The law ScanRound, walked: the cursors of a table come up each once.
-/
import Derived.Test.YthoiglhdpknmaaaScanRef
import Derived.Test.YthoiglhdpknmaaaDraws
import Derived.Laws.MakeOwn
import Derived.Laws.OwnMore
import Derived.OwnWalk
import Derived.Below
import Derived.Deep.Cut
import Derived.Deep.Heap
import Derived.Deep.RegionHeld3
namespace Go.Proofs.Ythoiglhdpknmaaa
open Go.RowKit
/-- a row of whole numbers in a block -/
def Nums (w : World) (g n : Nat) (f : Nat → Nat) : Prop := ∃ cur : Array Value, w.heap[g]? = some (.cells cur 3 (0, 0)) ∧ cur.size = n ∧ ∀ k, k < n → cur[k]? = some (.int .i64 (f k))
theorem Nums.cell {w : World} {g n k : Nat} {f : Nat → Nat} (h : Nums w g n f) (hk : k < n) : w.cell? ⟨g, k, none⟩ = some (.int .i64 (f k)) := by
  obtain ⟨cur, h1, h2, h3⟩ := h
  rw [cell_of_row _ _ _ cur 3 (0, 0) h1]
  exact h3 k hk
theorem Nums.free {w : World} {g n : Nat} {f : Nat → Nat} (h : Nums w g n f) (k : Nat) : w.frozen? ⟨g, k, none⟩ = false := by
  obtain ⟨cur, h1, _⟩ := h
  unfold World.frozen?
  rw [h1]
  simp
theorem Nums.kept {w w' : World} {g n : Nat} {f : Nat → Nat} (h : Nums w g n f) (e : w'.heap[g]? = w.heap[g]?) : Nums w' g n f := by
  obtain ⟨cur, h1, h2⟩ := h
  exact ⟨cur, by rw [e]; exact h1, h2⟩
theorem Nums.store {w : World} {g n k b : Nat} {f f' : Nat → Nat} (h : Nums w g n f) (hk : k < n) (h0 : f' k = b) (h1 : ∀ j, j < n → j ≠ k → f' j = f j) : Nums (w.setCell ⟨g, k, none⟩ (.int .i64 (b : Int))) g n f' := by
  obtain ⟨cur, q1, q2, q3⟩ := h
  refine ⟨cur.setIfInBounds k (.int .i64 (b : Int)), heap_setCell_same w g k cur _ _ q1, by simpa using q2, fun j hj => ?_⟩
  by_cases e : j = k
  · subst e
    rw [Array.getElem?_setIfInBounds_self_of_lt (by omega), h0]
  · rw [Array.getElem?_setIfInBounds_ne (fun h => e h.symm), h1 j hj e]
    exact q3 j hj
theorem nums_made {w : World} {B g n : Nat} (h : w.ownsRow B 3 1 (.slice (some ⟨g, 0, none⟩) n n) n (madeCells (Value.int .i64 0).cells (n * 1)).toList) : Nums w g n (fun _ => 0) := by
  have e : (madeCells (Value.int .i64 0).cells (n * 1)).toList = List.replicate n (.int .i64 0) := by
    rw [Nat.mul_one]
    exact toList_madeCells_one _ _
  rw [e] at h
  obtain ⟨_, ⟨h, _⟩ | ⟨g', cap, cur, e, hg, hh, hc, hm, hs, ht⟩⟩ := h
  · cases h
  · cases e
    rw [Nat.mul_one] at hs ht
    refine ⟨cur, hh, hs, fun k hk => ?_⟩
    have e1 : (cur.toList.take n)[k]? = some (.int .i64 0) := by rw [ht, List.getElem?_replicate, if_pos hk]
    rw [List.getElem?_take_of_lt hk, Array.getElem?_toList] at e1
    exact e1
theorem info_int : (Try.prog.info? 3).map (fun i => (i.zero, i.size, i.bytes)) = some (some (.int .i64 0), 1, 8) := by kernel_rfl
theorem make_nums (w : World) (n : Nat) (hn : n ≤ 4096) :
    ∃ w', (Instr.makeSlice 25 (.int .i64 (n : Int)) (.int .i64 (n : Int))).run Try.prog w = .ok (.slice (some ⟨w.heap.size, 0, none⟩) n n) w' ∧ Nums w' w.heap.size n (fun _ => 0) ∧ Below w.heap.size w w' := by
  obtain ⟨i0, hi0, hz0, hz1, hz2⟩ := info_parts info_int
  obtain ⟨w', h1, h2, h3⟩ := run_make_full (P := Try.prog) w w.heap.size 25 3 i0 (.int .i64 0) 1 Try.underlying25 hi0 hz0 hz1 .i64 .i64 n (by rw [hz2]; omega) (by unfold maxLen; omega) (Nat.le_refl _)
  exact ⟨w', h1, nums_made h2, (Below.refl w.heap.size w).grown h3 (Nat.le_refl _) (fun k hk => by cases hk)⟩
/-- when each cursor came up, one more than its place; 0 where it did not yet -/
def met (l i k : Nat) : Nat := if Rv.rv l k < i then Rv.rv l k + 1 else 0
theorem met_now {l i : Nat} (hi : i < 2 ^ l) : met l i (Rv.rv l i) = 0 := by
  unfold met
  rw [Rv.rv_rv, Nat.mod_eq_of_lt hi, if_neg (by omega)]
theorem met_next {l i : Nat} (hi : i < 2 ^ l) : met l (i + 1) (Rv.rv l i) = i + 1 := by
  unfold met
  rw [Rv.rv_rv, Nat.mod_eq_of_lt hi, if_pos (by omega)]
theorem met_other {l i j : Nat} (hj : j < 2 ^ l) (hn : j ≠ Rv.rv l i) : met l (i + 1) j = met l i j := by
  unfold met
  have h : Rv.rv l j ≠ i := by
    intro e
    apply hn
    rw [← e, Rv.rv_rv, Nat.mod_eq_of_lt hj]
  by_cases q : Rv.rv l j < i
  · rw [if_pos q, if_pos (by omega)]
  · rw [if_neg q, if_neg (by omega)]
theorem side {l s i : Nat} (hs : s ≤ l) (h : ¬ (i + 1) % 2 ^ (l - s) = 0) : Rv.rv l (i + 1) % 2 ^ s = Rv.rv l i % 2 ^ s := by
  obtain ⟨a, rfl⟩ : ∃ a, l = a + s := ⟨l - s, by omega⟩
  have e : a + s - s = a := by omega
  rw [e] at h
  have q : ∀ x, Rv.rv (a + s) x % 2 ^ s = Rv.rv s (x / 2 ^ a) := fun x => by
    rw [Rv.rv_split, Nat.mul_comm, Nat.mul_add_mod, Nat.mod_eq_of_lt (Rv.rv_lt s _)]
  have d : (i + 1) / 2 ^ a = i / 2 ^ a := by
    exact Nat.succ_div_of_not_dvd (fun hd => h (Nat.mod_eq_zero_of_dvd hd))
  rw [q, q, d]
theorem next_rv {l i : Nat} (hi : i < 2 ^ l) : Rv.next l (Rv.rv l i) = Rv.rv l (i + 1) := by
  unfold Rv.next
  rw [Rv.rv_rv, Nat.mod_eq_of_lt hi]
theorem round_facts (l s : Nat) (hl : l ≤ 12) (hs : s ≤ l) : ∃ P Q D : Nat, P ≤ 4096 ∧ 0 < P ∧ 0 < Q ∧ Q ≤ P ∧ P / Q = D ∧ 0 < D ∧ wrap64 ((2 : Int) ^ l) = (P : Int) ∧ IntKind.i64.wrap ((2 : Int) ^ l) = (P : Int) ∧ IntKind.u64.wrap ((2 : Int) ^ s) = (Q : Int)
    ∧ Kept (∀ (c : Nat) (w : World), c < 2 ^ 64 → Calls Try.prog 17 #[.int .u64 c, .int .i64 (P : Int)] w fun e w' => e = .returned (.int .u64 ((Rv.next l c : Nat) : Int)) ∧ w' = w)
    ∧ Kept (∀ i, i < P → Rv.next l (Rv.rv l i) = Rv.rv l (i + 1)) ∧ Kept (∀ i, ¬ (i + 1) % D = 0 → Rv.rv l (i + 1) % Q = Rv.rv l i % Q)
    ∧ Kept (∀ i, i < P → met l i (Rv.rv l i) = 0) ∧ Kept (∀ i, i < P → met l (i + 1) (Rv.rv l i) = i + 1) ∧ Kept (∀ i j, j < P → j ≠ Rv.rv l i → met l (i + 1) j = met l i j)
    ∧ Kept (∀ i, Rv.rv l i < P) ∧ Kept (Rv.rv l P = 0) := by
  have hP2 : 2 ^ l ≤ 2 ^ 12 := Nat.pow_le_pow_right (by omega) hl
  have hQ2 : 2 ^ s ≤ 2 ^ l := Nat.pow_le_pow_right (by omega) hs
  have p0 := Rv.two_pos l
  have p1 := Rv.two_pos s
  have kA : ∀ P : Nat, P ≤ 2 ^ 12 → -9223372036854775808 ≤ (P : Int) ∧ (P : Int) ≤ 9223372036854775807 ∧ wrap64 (P : Int) = (P : Int) ∧ IntKind.u64.wrap (P : Int) = (P : Int) ∧ IntKind.i64.wrap (P : Int) = (P : Int) := fun P h => by
    refine ⟨by omega, by omega, ?_, ?_, ?_⟩
    · unfold RowKit.wrap64; omega
    · rw [IntKind.wrap_u64]; omega
    · rw [IntKind.wrap_i64]; omega
  refine ⟨2 ^ l, 2 ^ s, 2 ^ (l - s), hP2, Rv.two_pos l, Rv.two_pos s, hQ2, Nat.pow_div hs (by omega), Rv.two_pos _, ?_, ?_, ?_, fun c w hc => after_any c ((2 ^ l : Nat) : Int) l w hc (kA _ hP2).1 (kA _ hP2).2.1 (lg_pow l), fun i h => next_rv h, fun i h => side hs h, fun i h => met_now h, fun i h => met_next h, fun i j h k => met_other h k, fun i => Rv.rv_lt l i, Rv.rv_all l⟩
  · have e : (2 : Int) ^ l = ((2 ^ l : Nat) : Int) := by simp
    rw [e]
    exact (kA _ hP2).2.2.1
  · have e : (2 : Int) ^ l = ((2 ^ l : Nat) : Int) := by simp
    rw [e]
    exact (kA _ hP2).2.2.2.2
  · have e : (2 : Int) ^ s = ((2 ^ s : Nat) : Int) := by simp
    rw [e]
    exact (kA _ (Nat.le_trans hQ2 hP2)).2.2.2.1
set_option maxRecDepth 100000 in
set_option maxHeartbeats 4000000 in
theorem round_any (lg ls : Int) (W : World) (h0 : -9223372036854775808 ≤ lg ∧ lg ≤ 9223372036854775807) (h1 : -9223372036854775808 ≤ ls ∧ ls ≤ 9223372036854775807) :
    Calls Try.prog 8 #[.int .i64 lg, .int .i64 ls] W fun e w' => e = .returned (.bool true) ∧ Below W.heap.size W w' := by
  go_enter Try.func8, Try.ntmps8
  refine wp_seq_k (fun K0 hK0 => ?_)
  have HK0 := keep hK0
  clear hK0
  go_wp2
  refine HK0.out _ _ ?_
  clear HK0 K0
  refine wp_seq_k (fun K1 hK1 => ?_)
  go_cut [0] from 11 (fun s0 w => w = W ∧ ∃ l : Nat, l ≤ 12 ∧ s0 = .int .i64 l)
  case first =>
    by_cases q1 : lg < 0
    · go_wp2
      go_meet
      case rel => exact ⟨rfl, 5, by omega, rfl⟩
    · by_cases q2 : 12 < lg
      · go_wp2
        go_meet
        case rel => exact ⟨rfl, 5, by omega, rfl⟩
      · obtain ⟨l, rfl⟩ : ∃ l : Nat, lg = (l : Int) := ⟨lg.toNat, by omega⟩
        go_wp2
        go_meet
        case rel => exact ⟨rfl, l, by omega, rfl⟩
  case rest =>
    obtain ⟨rfl, l, hl, rfl⟩ := hcut
    refine hK1 _ _ ?_
    clear hK1 K1
    refine wp_seq_k (fun K1 hK1 => ?_)
    go_cut [1] from 11 (fun s1 w => w = wc ∧ ∃ s : Nat, s ≤ l ∧ s1 = .int .i64 s)
    case first =>
      by_cases q1 : ls < 0
      · go_wp2
        go_meet
        case rel => exact ⟨rfl, l / 2, by omega, by go_num⟩
      · by_cases q2 : (l : Int) < ls
        · go_wp2
          go_meet
          case rel => exact ⟨rfl, l / 2, by omega, by go_num⟩
        · obtain ⟨s, rfl⟩ : ∃ s : Nat, ls = (s : Int) := ⟨ls.toNat, by omega⟩
          go_wp2
          go_meet
          case rel => exact ⟨rfl, s, by omega, rfl⟩
    case rest =>
      obtain ⟨rfl, s, hs, rfl⟩ := hcut
      refine hK1 _ _ ?_
      clear hK1 K1
      obtain ⟨P, Q, D, hP3, hP0, hQ0, hQ2, hdv, hD0, hw1, hw3, hw2, KA, KN, KS, KM0, KM1, KM2, KL, KE⟩ := round_facts l s hl hs
      obtain ⟨w2, mk, qB, qb⟩ := make_nums wc P hP3
      have kB2 := keep qB
      have kb2 := keep qb
      clear qB qb
      go_wp2_with fail
      clear hw1 hw2 hw3 mk h0 h1
      have hDP : D ≤ 4096 := by rw [← hdv]; exact Nat.le_trans (Nat.div_le_self _ _) hP3
      have hdv' : (P : Int) / (Q : Int) = (D : Int) := by rw [← hdv]; rfl
      clear hdv
      have KDV := keep hdv'
      clear hdv'
      go_loopw [8, 9] (fun c i wr => ∃ k : Nat, k ≤ P ∧ i = .int .i64 k ∧ c = .int .u64 ((Rv.rv l k : Nat) : Int) ∧ Kept (Nums wr wc.heap.size P (met l k)) ∧ Kept (Below wc.heap.size wc wr)) (fun _ i _ => P - (intOf i).toNat)
      case atStart => exact ⟨0, by omega, rfl, by rw [Rv.rv_zero]; rfl, kB2, kb2⟩
      case round =>
        obtain ⟨k, hk, rfl, rfl, kB, kb⟩ := hrel
        have hc := KL.out k
        by_cases hlt : k < P
        · have cC := kB.out.cell (k := Rv.rv l k) hc
          rw [KM0.out k hlt] at cC
          have zC := kB.out.free (Rv.rv l k)
          have kS := keep (kB.out.store (b := k + 1) hc (KM1.out k hlt) (fun j hj hn => KM2.out k j hj hn))
          have kb2 := keep (kb.out.setCell (p := ⟨wc.heap.size, Rv.rv l k, none⟩) (Nat.le_refl _) (.int .i64 ((k + 1 : Nat) : Int)))
          have mA := KA.out (Rv.rv l k) (wr.setCell ⟨wc.heap.size, Rv.rv l k, none⟩ (.int .i64 ((k + 1 : Nat) : Int))) (by omega)
          rw [KN.out k hlt] at mA
          have hn := KL.out (k + 1)
          have kSd := keep (KS.out k)
          generalize Rv.rv l k = c at *
          generalize hdd : Rv.rv l (k + 1) = d at *
          have KDD := keep hdd
          clear hdd
          have kr : ¬ ((k : Int) + 1) % (D : Int) = 0 → (d : Int) % (Q : Int) = (c : Int) % (Q : Int) := fun h => by
            have h' : ¬ (k + 1) % D = 0 := fun e => h (by have := congrArg (fun x : Nat => (x : Int)) e; simpa using this)
            have := congrArg (fun x : Nat => (x : Int)) (kSd.out h')
            simpa using this
          clear kSd kB kb
          go_wp2_with fail
          refine mA.mono ?_
          rintro _ w' ⟨rfl, rfl⟩
          clear mA cC zC
          go_wp2_with fail
          have hQ' : ¬ (Q : Int) = 0 := by omega
          have hD' : ¬ (D : Int) = 0 := by omega
          have hQn : ¬ Q = 0 := by omega
          have hDn : ¬ D = 0 := by omega
          have hwQ : IntKind.i64.wrap (Q : Int) = (Q : Int) := by rw [IntKind.wrap_i64]; omega
          have hdw : IntKind.i64.wrap ((P : Int) / (Q : Int)) = (D : Int) := by rw [KDV.out, IntKind.wrap_i64]; omega
          have hdn : 0 ≤ (P : Int) ∧ 0 ≤ (Q : Int) ∧ 0 ≤ (D : Int) ∧ 0 ≤ (k : Int) + 1 := by omega
          clear KA KN KS KM0 KM1 KM2 KL KE KDV
          obtain ⟨m, hmm⟩ : ∃ m : Nat, ((k : Int) + 1) % (D : Int) = (m : Int) := ⟨(k + 1) % D, by simp⟩
          obtain ⟨x, hx⟩ : ∃ x : Nat, (c : Int) % (Q : Int) = (x : Int) := ⟨c % Q, by simp⟩
          have hmw : IntKind.i64.wrap (m : Int) = (m : Int) := by
            have h1 := Int.emod_lt_of_pos ((k : Int) + 1) (show (0 : Int) < (D : Int) by omega)
            rw [hmm] at h1
            rw [IntKind.wrap_i64]; omega
          have hkw : IntKind.i64.wrap ((k : Int) + 1) = (k : Int) + 1 := by rw [IntKind.wrap_i64]; omega
          have KS2 := keep kS
          have KB2 := keep kb2
          clear kS kb2
          refine wp_region_held_drew (S := fun _ => True) (by kernel_rfl) trivial (fun hHeld => ?_)
          by_cases hm : m = 0
          · subst hm
            clear kr
            have hb : (((k : Int) + 1).tmod (D : Int) != 0) = false := by
              rw [Int.tmod_eq_emod_of_nonneg hdn.2.2.2, hmm]; rfl
            clear hmm hmw hx hdn
            refine wpAnyH_take (i := 0) (oi := { dst := some 56, op := _, type := _, pos := _, after := _, guard := _ }) (v := ?v1) rfl (by kernel_rfl) (by kernel_rfl) (by kernel_rfl) (fun _ _ _ h => h) (Or.inl ⟨by rfl, ?hy1⟩) (by assumption) ?rest1
            case hy1 => (intro w hSw; go_simp; try with_reducible rfl)
            try simp only [Act.put, List.setIfInBounds_toArray, List.set_cons_zero, List.set_cons_succ]
            refine wpAnyH_take (i := 1) (oi := { dst := some 57, op := _, type := _, pos := _, after := _, guard := _ }) (v := (.int .i64 ((k : Int) + 1))) rfl (by kernel_rfl) (by kernel_rfl) (by kernel_rfl) (fun _ _ _ h => h) (Or.inl ⟨by rfl, ?hy2⟩) (by assumption) ?rest2
            case hy2 => (intro w hSw; first | (go_simp; done) | (go_simp; simp [*]; done) | (simp [*]; go_simp; done))
            try simp only [Act.put, List.setIfInBounds_toArray, List.set_cons_zero, List.set_cons_succ]
            refine wpAnyH_take (i := 2) (oi := { dst := some 58, op := _, type := _, pos := _, after := _, guard := _ }) (v := ?v3) rfl (by kernel_rfl) (by kernel_rfl) (by kernel_rfl) (fun _ _ _ h => h) (Or.inl ⟨by rfl, ?hy3⟩) (by assumption) ?rest3
            case hy3 => (intro w hSw; go_simp; try with_reducible rfl)
            try simp only [Act.put, List.setIfInBounds_toArray, List.set_cons_zero, List.set_cons_succ]
            refine wpAnyH_take (i := 3) (oi := { dst := some 59, op := _, type := _, pos := _, after := _, guard := _ }) (v := ?v4) rfl (by kernel_rfl) (by kernel_rfl) (by kernel_rfl) (fun _ _ _ h => h) (Or.inl ⟨by rfl, ?hy4⟩) (by assumption) ?rest4
            case hy4 => (intro w hSw; go_simp; try with_reducible rfl)
            try simp only [Act.put, List.setIfInBounds_toArray, List.set_cons_zero, List.set_cons_succ]
            refine wpAnyH_take (i := 4) (oi := { dst := some 60, op := _, type := _, pos := _, after := _, guard := _ }) (v := (.int .i64 (Q : Int))) rfl (by kernel_rfl) (by kernel_rfl) (by kernel_rfl) (fun _ _ _ h => h) (Or.inl ⟨by rfl, ?hy5⟩) (by assumption) ?rest5
            case hy5 => (intro w hSw; first | (go_simp; done) | (go_simp; simp [*]; done) | (simp [*]; go_simp; done))
            try simp only [Act.put, List.setIfInBounds_toArray, List.set_cons_zero, List.set_cons_succ]
            refine wpAnyH_take (i := 5) (oi := { dst := some 61, op := _, type := _, pos := _, after := _, guard := _ }) (v := (.int .i64 (D : Int))) rfl (by kernel_rfl) (by kernel_rfl) (by kernel_rfl) (fun _ _ _ h => h) (Or.inl ⟨by rfl, ?hy6⟩) (by assumption) ?rest6
            case hy6 => (intro w hSw; first | (go_simp; done) | (go_simp; simp [*]; done) | (simp [*]; go_simp; done))
            try simp only [Act.put, List.setIfInBounds_toArray, List.set_cons_zero, List.set_cons_succ]
            refine wpAnyH_take (i := 6) (oi := { dst := some 62, op := _, type := _, pos := _, after := _, guard := _ }) (v := ?v7) rfl (by kernel_rfl) (by kernel_rfl) (by kernel_rfl) (fun _ _ _ h => h) (Or.inl ⟨by rfl, ?hy7⟩) (by assumption) ?rest7
            case hy7 => (intro w hSw; go_simp; try with_reducible rfl)
            try simp only [Act.put, List.setIfInBounds_toArray, List.set_cons_zero, List.set_cons_succ]
            refine wpAnyH_take (i := 7) (oi := { dst := some 63, op := _, type := _, pos := _, after := _, guard := _ }) (v := (.bool false)) rfl (by kernel_rfl) (by kernel_rfl) (by kernel_rfl) (fun _ _ _ h => h) (Or.inl ⟨by rfl, ?hy8⟩) (by assumption) ?rest8
            case hy8 => (intro w hSw; first | (go_simp; done) | (go_simp; simp [*]; done) | (simp [*]; go_simp; done))
            try simp only [Act.put, List.setIfInBounds_toArray, List.set_cons_zero, List.set_cons_succ]
            refine wpAnyH_take (i := 8) (oi := { dst := some 64, op := _, type := _, pos := _, after := _, guard := _ }) (v := (.bool false)) rfl (by kernel_rfl) (by kernel_rfl) (by kernel_rfl) (fun _ _ _ h => h) (Or.inl ⟨by rfl, ?hy9⟩) (by assumption) ?rest9
            case hy9 => (intro w hSw; first | (go_simp; done) | (go_simp; simp [*]; done) | (simp [*]; go_simp; done))
            try simp only [Act.put, List.setIfInBounds_toArray, List.set_cons_zero, List.set_cons_succ]
            refine wpAnyH_take (i := 9) (oi := { dst := some 65, op := _, type := _, pos := _, after := _, guard := _ }) (v := _) rfl (by kernel_rfl) (by kernel_rfl) (by kernel_rfl) (fun _ _ _ h => h) (Or.inr ⟨by rfl, rfl⟩) (by assumption) ?_
            try simp only [Act.put, List.setIfInBounds_toArray, List.set_cons_zero, List.set_cons_succ]
            refine wpAnyH_take (i := 10) (oi := { dst := some 66, op := _, type := _, pos := _, after := _, guard := _ }) (v := _) rfl (by kernel_rfl) (by kernel_rfl) (by kernel_rfl) (fun _ _ _ h => h) (Or.inr ⟨by rfl, rfl⟩) (by assumption) ?_
            try simp only [Act.put, List.setIfInBounds_toArray, List.set_cons_zero, List.set_cons_succ]
            refine wpAnyH_take (i := 11) (oi := { dst := some 67, op := _, type := _, pos := _, after := _, guard := _ }) (v := _) rfl (by kernel_rfl) (by kernel_rfl) (by kernel_rfl) (fun _ _ _ h => h) (Or.inr ⟨by rfl, rfl⟩) (by assumption) ?_
            try simp only [Act.put, List.setIfInBounds_toArray, List.set_cons_zero, List.set_cons_succ]
            refine wpAnyH_take (i := 12) (oi := { dst := some 68, op := _, type := _, pos := _, after := _, guard := _ }) (v := _) rfl (by kernel_rfl) (by kernel_rfl) (by kernel_rfl) (fun _ _ _ h => h) (Or.inr ⟨by rfl, rfl⟩) (by assumption) ?_
            try simp only [Act.put, List.setIfInBounds_toArray, List.set_cons_zero, List.set_cons_succ]
            refine wpAnyH_take (i := 13) (oi := { dst := some 69, op := _, type := _, pos := _, after := _, guard := _ }) (v := _) rfl (by kernel_rfl) (by kernel_rfl) (by kernel_rfl) (fun _ _ _ h => h) (Or.inr ⟨by rfl, rfl⟩) (by assumption) ?_
            try simp only [Act.put, List.setIfInBounds_toArray, List.set_cons_zero, List.set_cons_succ]
            refine wpAnyH_take (i := 14) (oi := { dst := some 70, op := _, type := _, pos := _, after := _, guard := _ }) (v := _) rfl (by kernel_rfl) (by kernel_rfl) (by kernel_rfl) (fun _ _ _ h => h) (Or.inr ⟨by rfl, rfl⟩) (by assumption) ?_
            try simp only [Act.put, List.setIfInBounds_toArray, List.set_cons_zero, List.set_cons_succ]
            refine wpAnyH_take (i := 15) (oi := { dst := some 71, op := _, type := _, pos := _, after := _, guard := _ }) (v := _) rfl (by kernel_rfl) (by kernel_rfl) (by kernel_rfl) (fun _ _ _ h => h) (Or.inr ⟨by rfl, rfl⟩) (by assumption) ?_
            try simp only [Act.put, List.setIfInBounds_toArray, List.set_cons_zero, List.set_cons_succ]
            refine wpAnyH_take (i := 16) (oi := { dst := some 72, op := _, type := _, pos := _, after := _, guard := _ }) (v := (.bool false)) rfl (by kernel_rfl) (by kernel_rfl) (by kernel_rfl) (fun _ _ _ h => h) (Or.inl ⟨by rfl, ?hy10⟩) (by assumption) ?rest10
            case hy10 => (intro w hSw; first | (go_simp; done) | (go_simp; simp [*]; done) | (simp [*]; go_simp; done))
            try simp only [Act.put, List.setIfInBounds_toArray, List.set_cons_zero, List.set_cons_succ]
            refine wpAnyH_done (by kernel_rfl) ?_ _
            clear hHeld
            go_wp2
            go_roundw
            case rel => exact ⟨k + 1, by omega, by go_num, by rw [KDD.out], KS2.out.out.kept rfl, KB2.out.out.drew⟩
            case measure => simp [intOf]; omega
          · have hmi : ¬ (m : Int) = 0 := by omega
            have hd : (d : Int) % (Q : Int) = (x : Int) := by rw [← hx]; exact kr (by rw [hmm]; exact hmi)
            clear kr
            have hb : (((k : Int) + 1).tmod (D : Int) != 0) = true := by
              rw [Int.tmod_eq_emod_of_nonneg hdn.2.2.2, hmm]; simpa using hm
            have hb2 : ((d : Int).tmod (Q : Int) != (c : Int).tmod (Q : Int)) = false := by
              rw [Int.tmod_eq_emod_of_nonneg (by omega), Int.tmod_eq_emod_of_nonneg (by omega), hd, hx]; simp
            have hb3 : ((d : Int) % (Q : Int) != (c : Int) % (Q : Int)) = false := by
              rw [hd, hx]; simp
            clear hmm hmw hx hdn hd hmi hm
            refine wpAnyH_take (i := 0) (oi := { dst := some 56, op := _, type := _, pos := _, after := _, guard := _ }) (v := ?v11) rfl (by kernel_rfl) (by kernel_rfl) (by kernel_rfl) (fun _ _ _ h => h) (Or.inl ⟨by rfl, ?hy11⟩) (by assumption) ?rest11
            case hy11 => (intro w hSw; go_simp; try with_reducible rfl)
            try simp only [Act.put, List.setIfInBounds_toArray, List.set_cons_zero, List.set_cons_succ]
            refine wpAnyH_take (i := 1) (oi := { dst := some 57, op := _, type := _, pos := _, after := _, guard := _ }) (v := (.int .i64 ((k : Int) + 1))) rfl (by kernel_rfl) (by kernel_rfl) (by kernel_rfl) (fun _ _ _ h => h) (Or.inl ⟨by rfl, ?hy12⟩) (by assumption) ?rest12
            case hy12 => (intro w hSw; first | (go_simp; done) | (go_simp; simp [*]; done) | (simp [*]; go_simp; done))
            try simp only [Act.put, List.setIfInBounds_toArray, List.set_cons_zero, List.set_cons_succ]
            refine wpAnyH_take (i := 2) (oi := { dst := some 58, op := _, type := _, pos := _, after := _, guard := _ }) (v := ?v13) rfl (by kernel_rfl) (by kernel_rfl) (by kernel_rfl) (fun _ _ _ h => h) (Or.inl ⟨by rfl, ?hy13⟩) (by assumption) ?rest13
            case hy13 => (intro w hSw; go_simp; try with_reducible rfl)
            try simp only [Act.put, List.setIfInBounds_toArray, List.set_cons_zero, List.set_cons_succ]
            refine wpAnyH_take (i := 3) (oi := { dst := some 59, op := _, type := _, pos := _, after := _, guard := _ }) (v := ?v14) rfl (by kernel_rfl) (by kernel_rfl) (by kernel_rfl) (fun _ _ _ h => h) (Or.inl ⟨by rfl, ?hy14⟩) (by assumption) ?rest14
            case hy14 => (intro w hSw; go_simp; try with_reducible rfl)
            try simp only [Act.put, List.setIfInBounds_toArray, List.set_cons_zero, List.set_cons_succ]
            refine wpAnyH_take (i := 4) (oi := { dst := some 60, op := _, type := _, pos := _, after := _, guard := _ }) (v := (.int .i64 (Q : Int))) rfl (by kernel_rfl) (by kernel_rfl) (by kernel_rfl) (fun _ _ _ h => h) (Or.inl ⟨by rfl, ?hy15⟩) (by assumption) ?rest15
            case hy15 => (intro w hSw; first | (go_simp; done) | (go_simp; simp [*]; done) | (simp [*]; go_simp; done))
            try simp only [Act.put, List.setIfInBounds_toArray, List.set_cons_zero, List.set_cons_succ]
            refine wpAnyH_take (i := 5) (oi := { dst := some 61, op := _, type := _, pos := _, after := _, guard := _ }) (v := (.int .i64 (D : Int))) rfl (by kernel_rfl) (by kernel_rfl) (by kernel_rfl) (fun _ _ _ h => h) (Or.inl ⟨by rfl, ?hy16⟩) (by assumption) ?rest16
            case hy16 => (intro w hSw; first | (go_simp; done) | (go_simp; simp [*]; done) | (simp [*]; go_simp; done))
            try simp only [Act.put, List.setIfInBounds_toArray, List.set_cons_zero, List.set_cons_succ]
            refine wpAnyH_take (i := 6) (oi := { dst := some 62, op := _, type := _, pos := _, after := _, guard := _ }) (v := ?v17) rfl (by kernel_rfl) (by kernel_rfl) (by kernel_rfl) (fun _ _ _ h => h) (Or.inl ⟨by rfl, ?hy17⟩) (by assumption) ?rest17
            case hy17 => (intro w hSw; go_simp; try with_reducible rfl)
            try simp only [Act.put, List.setIfInBounds_toArray, List.set_cons_zero, List.set_cons_succ]
            refine wpAnyH_take (i := 7) (oi := { dst := some 63, op := _, type := _, pos := _, after := _, guard := _ }) (v := (.bool true)) rfl (by kernel_rfl) (by kernel_rfl) (by kernel_rfl) (fun _ _ _ h => h) (Or.inl ⟨by rfl, ?hy18⟩) (by assumption) ?rest18
            case hy18 => (intro w hSw; first | (go_simp; done) | (go_simp; simp [*]; done) | (simp [*]; go_simp; done))
            try simp only [Act.put, List.setIfInBounds_toArray, List.set_cons_zero, List.set_cons_succ]
            refine wpAnyH_take (i := 8) (oi := { dst := some 64, op := _, type := _, pos := _, after := _, guard := _ }) (v := (.bool true)) rfl (by kernel_rfl) (by kernel_rfl) (by kernel_rfl) (fun _ _ _ h => h) (Or.inl ⟨by rfl, ?hy19⟩) (by assumption) ?rest19
            case hy19 => (intro w hSw; first | (go_simp; done) | (go_simp; simp [*]; done) | (simp [*]; go_simp; done))
            try simp only [Act.put, List.setIfInBounds_toArray, List.set_cons_zero, List.set_cons_succ]
            refine wpAnyH_take (i := 9) (oi := { dst := some 65, op := _, type := _, pos := _, after := _, guard := _ }) (v := ?v20) rfl (by kernel_rfl) (by kernel_rfl) (by kernel_rfl) (fun _ _ _ h => h) (Or.inl ⟨by rfl, ?hy20⟩) (by assumption) ?rest20
            case hy20 => (intro w hSw; go_simp; try with_reducible rfl)
            try simp only [Act.put, List.setIfInBounds_toArray, List.set_cons_zero, List.set_cons_succ]
            refine wpAnyH_take (i := 10) (oi := { dst := some 66, op := _, type := _, pos := _, after := _, guard := _ }) (v := ?v21) rfl (by kernel_rfl) (by kernel_rfl) (by kernel_rfl) (fun _ _ _ h => h) (Or.inl ⟨by rfl, ?hy21⟩) (by assumption) ?rest21
            case hy21 => (intro w hSw; go_simp; try with_reducible rfl)
            try simp only [Act.put, List.setIfInBounds_toArray, List.set_cons_zero, List.set_cons_succ]
            refine wpAnyH_take (i := 11) (oi := { dst := some 67, op := _, type := _, pos := _, after := _, guard := _ }) (v := ?v22) rfl (by kernel_rfl) (by kernel_rfl) (by kernel_rfl) (fun _ _ _ h => h) (Or.inl ⟨by rfl, ?hy22⟩) (by assumption) ?rest22
            case hy22 => (intro w hSw; go_simp; try with_reducible rfl)
            try simp only [Act.put, List.setIfInBounds_toArray, List.set_cons_zero, List.set_cons_succ]
            refine wpAnyH_take (i := 12) (oi := { dst := some 68, op := _, type := _, pos := _, after := _, guard := _ }) (v := ?v23) rfl (by kernel_rfl) (by kernel_rfl) (by kernel_rfl) (fun _ _ _ h => h) (Or.inl ⟨by rfl, ?hy23⟩) (by assumption) ?rest23
            case hy23 => (intro w hSw; go_simp; try with_reducible rfl)
            try simp only [Act.put, List.setIfInBounds_toArray, List.set_cons_zero, List.set_cons_succ]
            refine wpAnyH_take (i := 13) (oi := { dst := some 69, op := _, type := _, pos := _, after := _, guard := _ }) (v := ?v24) rfl (by kernel_rfl) (by kernel_rfl) (by kernel_rfl) (fun _ _ _ h => h) (Or.inl ⟨by rfl, ?hy24⟩) (by assumption) ?rest24
            case hy24 => (intro w hSw; go_simp; try with_reducible rfl)
            try simp only [Act.put, List.setIfInBounds_toArray, List.set_cons_zero, List.set_cons_succ]
            refine wpAnyH_take (i := 14) (oi := { dst := some 70, op := _, type := _, pos := _, after := _, guard := _ }) (v := ?v25) rfl (by kernel_rfl) (by kernel_rfl) (by kernel_rfl) (fun _ _ _ h => h) (Or.inl ⟨by rfl, ?hy25⟩) (by assumption) ?rest25
            case hy25 => (intro w hSw; go_simp; try with_reducible rfl)
            try simp only [Act.put, List.setIfInBounds_toArray, List.set_cons_zero, List.set_cons_succ]
            refine wpAnyH_take (i := 15) (oi := { dst := some 71, op := _, type := _, pos := _, after := _, guard := _ }) (v := (.bool false)) rfl (by kernel_rfl) (by kernel_rfl) (by kernel_rfl) (fun _ _ _ h => h) (Or.inl ⟨by rfl, ?hy26⟩) (by assumption) ?rest26
            case hy26 => (intro w hSw; first | (go_simp; done) | (go_simp; simp [*]; done) | (simp [*]; go_simp; done))
            try simp only [Act.put, List.setIfInBounds_toArray, List.set_cons_zero, List.set_cons_succ]
            refine wpAnyH_take (i := 16) (oi := { dst := some 72, op := _, type := _, pos := _, after := _, guard := _ }) (v := (.bool false)) rfl (by kernel_rfl) (by kernel_rfl) (by kernel_rfl) (fun _ _ _ h => h) (Or.inl ⟨by rfl, ?hy27⟩) (by assumption) ?rest27
            case hy27 => (intro w hSw; first | (go_simp; done) | (go_simp; simp [*]; done) | (simp [*]; go_simp; done))
            try simp only [Act.put, List.setIfInBounds_toArray, List.set_cons_zero, List.set_cons_succ]
            refine wpAnyH_done (by kernel_rfl) ?_ _
            clear hHeld
            go_wp2
            go_roundw
            case rel => exact ⟨k + 1, by omega, by go_num, by rw [KDD.out], KS2.out.out.kept rfl, KB2.out.out.drew⟩
            case measure => simp [intOf]; omega
        · have e : k = P := by omega
          subst e
          rw [KE.out]
          clear KA KN KS KM0 KM1 KM2 KL
          have m1 := after_0_8 wr
          have m2 := after_4_8 wr
          go_wp2_with fail
          refine m1.mono ?_
          rintro _ w' ⟨rfl, rfl⟩
          go_wp2_with fail
          refine m2.mono ?_
          rintro _ w' ⟨rfl, rfl⟩
          go_wp2
          go_ret
          exact ⟨rfl, kb.out⟩
end Go.Proofs.Ythoiglhdpknmaaa
