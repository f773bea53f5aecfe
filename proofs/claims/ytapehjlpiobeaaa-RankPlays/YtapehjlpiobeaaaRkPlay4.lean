/-
  The statement's own walk: every script with two ranks, one of which may become a copy of the other.
-/
import Derived.Test.YtapehjlpiobeaaaRkPlay3
import Derived.Test.YtapehjlpiobeaaaRkOpen
namespace Go.Proofs.Ytapehjlpiobeaaa
open Go.RowKit Go.Shelf
set_option linter.unusedVariables false
set_option linter.unusedSimpArgs false
set_option maxRecDepth 100000
def arr (a b : Nat) : Obj := .cells #[.pointer (some ⟨a, 0, none⟩), .pointer (some ⟨b, 0, none⟩)] 26 (0, 0)
def arm (a b : Nat) : Obj := .cells #[.pointer (some ⟨a, 0, none⟩), .pointer (some ⟨b, 0, none⟩)] 29 (0, 0)
def stO (o : Stp) : Obj := .cells o.cells 31 (0, 0)
theorem Half.less {W w : World} {Sd Sd' : List (Nat × Obj)} {d0 : Nat × Nat} {R2 : Nat} (h : Half W Sd w d0 R2) (hs : ∀ p ∈ Sd', p ∈ Sd) : Half W Sd' w d0 R2 := by
  obtain ⟨F0, O2, O, seed, L, v, M, h1, h2, h3, h4, h5, h6, h7, h8, h9⟩ := h
  exact ⟨F0, O2, O, seed, L, v, M, h1, h2, h3, h4, h5, h6, h7, h8, fun p hp => h9 p (hs p hp)⟩
theorem two_cl {w : World} {b : Nat} {v0 v1 : Value} {t : TypeId} (h : w.heap[b]? = some (.cells #[v0, v1] t (0, 0))) : w.cell? ⟨b, 0, none⟩ = some v0 ∧ w.cell? ⟨b, 1, none⟩ = some v1 ∧ ∀ i, w.frozen? ⟨b, i, none⟩ = false := two_c0 h
theorem st_cells {w : World} {b : Nat} {o : Stp} (h : w.heap[b]? = some (stO o)) : w.cell? ⟨b, 0, none⟩ = some (.int .i64 o.who) ∧ w.cell? ⟨b, 1, none⟩ = some (.int .i64 o.act) ∧ w.cell? ⟨b, 2, none⟩ = some (.int .i64 o.sa) ∧ w.cell? ⟨b, 3, none⟩ = some (.int .i64 o.sb) ∧ w.cell? ⟨b, 4, none⟩ = some (.string o.key) ∧ w.cell? ⟨b, 5, none⟩ = some (.int .u64 (o.x : Int)) ∧ w.cell? ⟨b, 6, none⟩ = some (.int .u64 (o.y : Int)) ∧ w.cell? ⟨b, 7, none⟩ = some (.bool o.ox) ∧ w.cell? ⟨b, 8, none⟩ = some (.bool o.oy) := by
  unfold stO Stp.cells at h
  refine ⟨?_, ?_, ?_, ?_, ?_, ?_, ?_, ?_, ?_⟩ <;> simp [World.cell?, h]
/-- the two pairs of new ranks -/
theorem duo_start {W w1 w2 w4 w5 : World} {s0 s1 R0 R1 : Nat} {O0 O1 : Nat → Prop} (hs0 : s0 < Dw.M) (hs1 : s1 < Dw.M) (h0 : RK w1 O0 R0 s0 []) (n0 : ∀ k, O0 k → W.heap.size ≤ k) (b1 : Below W.heap.size W w1) (h1 : RK w2 O1 R1 s1 []) (n1 : ∀ k, O1 k → w1.heap.size ≤ k) (b2 : Below w1.heap.size w1 w2)
    (r0 : Rp w4 (w2.alloc (arr R0 R1)).heap.size (.slice none 0 0) []) (b4 : Below (w2.alloc (arr R0 R1)).heap.size (w2.alloc (arr R0 R1)) w4) (r1 : Rp w5 w4.heap.size (.slice none 0 0) []) (b5 : Below w4.heap.size w4 w5) :
    Duo W [(w2.heap.size, arr R0 R1), (w5.heap.size, arm (w2.alloc (arr R0 R1)).heap.size w4.heap.size)] (w5.alloc (arm (w2.alloc (arr R0 R1)).heap.size w4.heap.size)) (R0, (w2.alloc (arr R0 R1)).heap.size) (R1, w4.heap.size) ∧ W.heap.size ≤ w2.heap.size ∧ W.heap.size ≤ w5.heap.size ∧ w2.heap.size ≠ w5.heap.size := by
  obtain ⟨W3, hW3⟩ : ∃ W3, w2.alloc (arr R0 R1) = W3 := ⟨_, rfl⟩
  have b3 : Below w2.heap.size w2 W3 := by rw [← hW3]; exact (Below.refl _ w2).alloc (Nat.le_refl _) _
  have g3 : W3.heap[w2.heap.size]? = some (arr R0 R1) := by rw [← hW3]; exact heap_alloc_new _ _
  have s3 : W3.heap.size = w2.heap.size + 1 := by rw [← hW3]; simp
  rw [hW3] at r0 b4 ⊢
  obtain ⟨W6, hW6⟩ : ∃ W6, w5.alloc (arm W3.heap.size w4.heap.size) = W6 := ⟨_, rfl⟩
  have b6 : Below w5.heap.size w5 W6 := by rw [← hW6]; exact (Below.refl _ w5).alloc (Nat.le_refl _) _
  have g6 : W6.heap[w5.heap.size]? = some (arm W3.heap.size w4.heap.size) := by rw [← hW6]; exact heap_alloc_new _ _
  rw [hW6]
  have l0 := h0.lt
  have l1 := h1.lt
  have lr0 := r0.lt W3.heap.size (by simp [rbl])
  have lr1 := r1.lt w4.heap.size (by simp [rbl])
  have e1 := b1.size
  have e2 := b2.size
  have e4 := b4.size
  have e5 := b5.size
  have e6 := b6.size
  have b46 := Below.up b5 b6
  have b36 := Below.up b4 b46
  have b26 := Below.up b3 b36
  have b16 := Below.up b2 b26
  have rb : ∀ (k b : Nat), k ∈ rbl b (.slice none 0 0) → k = b := fun k b hk => by simpa [rbl, Value.ownBlock] using hk
  have sm0 : Sm [] [] := ⟨fun e => Iff.rfl, by simp [Dc.keys]⟩
  have PK0 : ∀ k, PO O0 W3.heap.size (.slice none 0 0) k → (W.heap.size ≤ k ∧ k < w1.heap.size) ∨ k = W3.heap.size := fun k hk => hk.elim (fun h => .inl ⟨n0 k h, l0 k h⟩) (fun h => .inr (rb _ _ h))
  have PK1 : ∀ k, PO O1 w4.heap.size (.slice none 0 0) k → (w1.heap.size ≤ k ∧ k < w2.heap.size) ∨ k = w4.heap.size := fun k hk => hk.elim (fun h => .inl ⟨n1 k h, l1 k h⟩) (fun h => .inr (rb _ _ h))
  refine ⟨⟨PO O0 W3.heap.size (.slice none 0 0), PO O1 w4.heap.size (.slice none 0 0), ⟨O0, s0, [], .slice none 0 0, [], hs0, ⟨h0.below b16, r0.bel b46, fun k hk hO => ?_, sm0⟩, fun k => Iff.rfl⟩, ⟨O1, s1, [], .slice none 0 0, [], hs1, ⟨h1.below b26, r1.bel b6, fun k hk hO => ?_, sm0⟩, fun k => Iff.rfl⟩, fun k ha hb => ?_, fun k hk => ?_, fun k hk => ?_, Below.up b1 b16, fun p hp => ?_⟩, by omega, by omega, by omega⟩
  · have := rb _ _ hk; have := l0 k hO; omega
  · have := rb _ _ hk; have := l1 k hO; omega
  · have := PK0 k ha; have := PK1 k hb; omega
  · have := PK0 k hk; omega
  · have := PK1 k hk; omega
  · rcases List.mem_cons.1 hp with rfl | hp
    · exact ⟨(b36.block _ (by show w2.heap.size < W3.heap.size; omega)).trans g3, fun hh => by have := PK0 _ hh; dsimp only at this; omega, fun hh => by have := PK1 _ hh; dsimp only at this; omega⟩
    · obtain rfl : p = _ := by simpa using hp
      exact ⟨g6, fun hh => by have := PK0 _ hh; dsimp only at this; omega, fun hh => by have := PK1 _ hh; dsimp only at this; omega⟩
set_option maxHeartbeats 16000000 in
theorem rplays_walk (W : World) (seed : Nat) (hseed : seed < Dw.M) (so : Option Addr) (cap : Nat) (S : List Stp) (hS : Steps W so S) (hlen : S.length ≤ maxLen) :
    Calls Try.prog 3 #[.int .u64 seed, .slice so S.length cap] W fun e w' => e = .returned (.bool true) ∧ Below W.heap.size W w' := by
  obtain ⟨nS, hnS⟩ : ∃ nS, S.length = nS := ⟨_, rfl⟩
  have HS := keep hS
  have HLEN := keep hlen
  have HNS := keep hnS
  have HSD := keep hseed
  rw [hnS]
  clear hS hlen hnS hseed
  have M1 := keep (knew_any W seed HSD.out)
  go_enter Try.func3, Try.ntmps3
  go_wp2_with fail
  refine M1.out.mono ?_
  rintro _ w1 ⟨⟨R0, O0, rfl, h0, n0⟩, b1⟩
  have hz : (0 : Nat) < Dw.M := Nat.lt_of_le_of_lt (Nat.zero_le _) HSD.out
  have M2 := keep (knew_any w1 0 hz)
  clear M1
  go_wp2_with fail
  refine M2.out.mono ?_
  rintro _ w2 ⟨⟨R1, O1, rfl, h1, n1⟩, b2⟩
  clear M2
  obtain ⟨PA, hPA⟩ : ∃ x, w2.heap.size = x := ⟨_, rfl⟩
  obtain ⟨W3, hW3⟩ : ∃ x, w2.alloc (.cells #[.pointer (some ⟨R0, 0, none⟩), .pointer (some ⟨R1, 0, none⟩)] 26) = x := ⟨_, rfl⟩
  have M3 := keep (rnew_any W3 seed)
  go_wp2_with fail
  refine M3.out.mono ?_
  rintro _ w4 ⟨rfl, r0, b4⟩
  have M4 := keep (rnew_any w4 0)
  clear M3
  go_wp2_with fail
  refine M4.out.mono ?_
  rintro _ w5 ⟨rfl, r1, b5⟩
  clear M4
  obtain ⟨MB, hMB⟩ : ∃ x, w5.heap.size = x := ⟨_, rfl⟩
  obtain ⟨bA, hbA⟩ : ∃ x, W3.heap.size = x := ⟨_, rfl⟩
  obtain ⟨bB, hbB⟩ : ∃ x, w4.heap.size = x := ⟨_, rfl⟩
  obtain ⟨W6, hW6⟩ : ∃ x, w5.alloc (.cells #[.pointer (some ⟨bA, 0, none⟩), .pointer (some ⟨bB, 0, none⟩)] 29) = x := ⟨_, rfl⟩
  have D0 : Kept (Duo W [(PA, arr R0 R1), (MB, arm bA bB)] W6 (R0, bA) (R1, bB) ∧ W.heap.size ≤ PA ∧ W.heap.size ≤ MB ∧ PA ≠ MB) := by
    have hW3' : w2.alloc (arr R0 R1) = W3 := hW3
    have hd := duo_start HSD.out hz h0 n0 b1 h1 n1 b2 (by rw [hW3']; exact r0) (by rw [hW3']; exact b4) r1 b5
    rw [hW3', hPA, hMB, hbA, hbB] at hd
    rw [← hW6]
    exact hd
  rw [hbA, hbB]
  clear h0 n0 b1 h1 n1 b2 r0 b4 r1 b5 hz
  have HPM : Kept (W.heap.size ≤ PA ∧ W.heap.size ≤ MB ∧ PA ≠ MB) := D0.out.2
  have D1 := keep D0.out.1
  clear D0
  go_wp2_with fail
  go_loopg [19] nS (fun kx s wr => ∃ i : Nat, s = .int .i64 i ∧ i ≤ nS ∧ nS - i ≤ kx ∧ ∃ R0 b0 R1 b1 : Nat, Kept (Duo W [(PA, arr R0 R1), (MB, arm b0 b1)] wr (R0, b0) (R1, b1)))
  case atStart => exact ⟨0, rfl, Nat.zero_le _, by omega, R0, bA, R1, bB, D1⟩
  case round =>
    clear D1 hPA hW3 hMB hbA hbB hW6
    obtain ⟨k, rfl, hk, hgk, R0, b0, R1, b1, KD⟩ := hrel
    by_cases hlt : k < nS
    · have hltz : (k : Int) < (nS : Int) := by omega
      have hk0 : (0 : Int) ≤ (k : Int) := by omega
      have hwk : IntKind.i64.wrap ((k : Int) + 1) = (k : Int) + 1 := by have := HLEN.out; have := HNS.out; unfold maxLen at *; rw [IntKind.wrap_i64]; omega
      obtain ⟨a, rfl, ha, hko, hat⟩ := HS.out k (by rw [HNS.out]; exact hlt)
      obtain ⟨o, ho⟩ : ∃ o, S[k]'(by rw [HNS.out]; exact hlt) = o := ⟨_, rfl⟩
      rw [ho] at hat hko
      have hat' := hat.bel KD.out.bel (by rw [add_block]; exact ha)
      obtain ⟨X, hX⟩ : ∃ X, wr.heap.size = X := ⟨_, rfl⟩
      obtain ⟨W1, hW1⟩ : ∃ x, wr.alloc (stO o) = x := ⟨_, rfl⟩
      have P1 : Kept (Duo W [(X, stO o), (PA, arr R0 R1), (MB, arm b0 b1)] W1 (R0, b0) (R1, b1)) := by rw [← hW1, ← hX]; exact KD.out.more _
      have HXN : Kept (X ≠ PA ∧ X ≠ MB ∧ W.heap.size ≤ X) := by
        have q1 := (Array.getElem?_eq_some_iff.1 (KD.out.side (PA, arr R0 R1) (by first | exact .head _ | exact .tail _ (.head _) | exact .tail _ (.tail _ (.head _))))).1
        have q2 := (Array.getElem?_eq_some_iff.1 (KD.out.side (MB, arm b0 b1) (by first | exact .head _ | exact .tail _ (.head _) | exact .tail _ (.tail _ (.head _))))).1
        have q3 := KD.out.bel.size
        dsimp only at q1 q2
        exact ⟨by omega, by omega, by omega⟩
      have KEY := keep hko.1
      have SD : Kept (∀ p ∈ [(X, stO o), (PA, arr R0 R1), (MB, arm b0 b1)], W.heap.size ≤ p.1) := fun p hp => by
        rcases List.mem_cons.1 hp with rfl | hp
        · exact HXN.out.2.2
        · rcases List.mem_cons.1 hp with rfl | hp
          · exact HPM.out.1
          · obtain rfl : p = _ := by simpa using hp
            exact HPM.out.2.1
      have SX : Kept (∀ wz : World, wz.heap[X]? = some (stO o) → wz.cell? ⟨X, 0, none⟩ = some (.int .i64 o.who) ∧ wz.cell? ⟨X, 1, none⟩ = some (.int .i64 o.act) ∧ wz.cell? ⟨X, 2, none⟩ = some (.int .i64 o.sa) ∧ wz.cell? ⟨X, 3, none⟩ = some (.int .i64 o.sb) ∧ wz.cell? ⟨X, 4, none⟩ = some (.string o.key) ∧ wz.cell? ⟨X, 5, none⟩ = some (.int .u64 (o.x : Int)) ∧ wz.cell? ⟨X, 6, none⟩ = some (.int .u64 (o.y : Int)) ∧ wz.cell? ⟨X, 7, none⟩ = some (.bool o.ox) ∧ wz.cell? ⟨X, 8, none⟩ = some (.bool o.oy)) := fun wz h => st_cells h
      obtain ⟨who, act, sa, sb, key, x, y, ox, oy⟩ := o
      obtain ⟨y0, y1, y2, y3, y4, y5, y6, y7, y8⟩ := hat'
      dsimp only at y0 y1 y2 y3 y4 y5 y6 y7 y8 KEY SX
      obtain ⟨x0, x1, x2, x3, x4, x5, x6, x7, x8⟩ := SX.out W1 (P1.out.side (X, _) (by first | exact .head _ | exact .tail _ (.head _) | exact .tail _ (.tail _ (.head _))))
      obtain ⟨sto, hsto⟩ : ∃ s, stO ⟨who, act, sa, sb, key, x, y, ox, oy⟩ = s := ⟨_, rfl⟩
      have hW1' := hW1
      unfold stO Stp.cells at hW1'
      dsimp only at hW1'
      rw [hsto] at P1 SX SD
      clear ho hat ha KD hlt hko hW1 hsto
      by_cases hw0 : who < 0
      · have P2 : Kept (Duo W [(PA, arr R0 R1), (MB, arm b0 b1)] W1 (R0, b0) (R1, b1)) := P1.out.less (fun p hp => by simp at hp ⊢; rcases hp with hp | hp <;> simp [hp])
        clear x1 x2 x3 x4 x5 x6 x7 x8 P1 SX SD
        go_wp2
        go_roundg (nS - (k + 1))
        case measure => omega
        case rel => exact ⟨k + 1, by simp, by omega, Nat.le_refl _, R0, b0, R1, b1, P2.out⟩
      · by_cases hw1 : 1 < who
        · have P2 : Kept (Duo W [(PA, arr R0 R1), (MB, arm b0 b1)] W1 (R0, b0) (R1, b1)) := P1.out.less (fun p hp => by simp at hp ⊢; rcases hp with hp | hp <;> simp [hp])
          clear x1 x2 x3 x4 x5 x6 x7 x8 P1 SX SD
          go_wp2
          go_roundg (nS - (k + 1))
          case measure => omega
          case rel => exact ⟨k + 1, by simp, by omega, Nat.le_refl _, R0, b0, R1, b1, P2.out⟩
        · have hq : who = 0 ∨ who = 1 := by omega
          clear hw0 hw1
          rcases hq with rfl | rfl
          · by_cases h7 : act = 7
            · subst h7
              have PX := keep ((P1.out).below (Below.refl _ W1).drew)
              have MC := keep (duo_copy PX.out SD.out)
              have sp1 := two_cl (show W1.heap[PA]? = some (arr R0 R1) from P1.out.side (PA, _) (by first | exact .head _ | exact .tail _ (.head _) | exact .tail _ (.tail _ (.head _))))
              have S1 : Kept (W1.drew.cell? ⟨X, 0, none⟩ = some (.int .i64 0) ∧ W1.drew.cell? ⟨PA, 0, none⟩ = some (.pointer (some ⟨R0, 0, none⟩))) := ⟨x0, sp1.1⟩
              clear x2 x3 x4 x5 x6 x7 x8 sp1 P1 PX
              go_wp2_with fail
              refine wp_region_held_drew (S := fun W => W.cell? ⟨X, 0, none⟩ = some (.int .i64 0) ∧ W.cell? ⟨PA, 0, none⟩ = some (.pointer (some ⟨R0, 0, none⟩))) (by kernel_rfl) S1.out (fun hHeld => ?_)
              refine wpAnyH_take (i := 0) (oi := { dst := some 34, op := _, type := _, pos := _, after := _, guard := _ }) (v := ?v1) rfl (by kernel_rfl) (by kernel_rfl) (by kernel_rfl) (fun _ _ _ h => h) (Or.inl ⟨by rfl, ?hy1⟩) (by assumption) ?rest1
              case hy1 => (intro w hSw; obtain ⟨p0,p1⟩ := hSw; go_simp; try with_reducible rfl)
              try simp only [Act.put, List.setIfInBounds_toArray, List.set_cons_zero, List.set_cons_succ]
              refine wpAnyH_take (i := 1) (oi := { dst := some 35, op := _, type := _, pos := _, after := _, guard := _ }) (v := (.int .i64 0)) rfl (by kernel_rfl) (by kernel_rfl) (by kernel_rfl) (fun _ _ _ h => h) (Or.inl ⟨by rfl, ?hy2⟩) (by assumption) ?rest2
              case hy2 => (intro w hSw; obtain ⟨p0,p1⟩ := hSw; first | (go_simp; done) | (go_simp; simp [*]; done) | (simp [*]; go_simp; done))
              try simp only [Act.put, List.setIfInBounds_toArray, List.set_cons_zero, List.set_cons_succ]
              refine wpAnyH_take (i := 2) (oi := { dst := some 36, op := _, type := _, pos := _, after := _, guard := _ }) (v := (.int .i64 1)) rfl (by kernel_rfl) (by kernel_rfl) (by kernel_rfl) (fun _ _ _ h => h) (Or.inl ⟨by rfl, by intro w hSw; first | rfl | (go_simp; rfl) | (go_simp; decide)⟩) (by assumption) ?_
              try simp only [Act.put, List.setIfInBounds_toArray, List.set_cons_zero, List.set_cons_succ]
              refine wpAnyH_take (i := 3) (oi := { dst := some 37, op := _, type := _, pos := _, after := _, guard := _ }) (v := ?v3) rfl (by kernel_rfl) (by kernel_rfl) (by kernel_rfl) (fun _ _ _ h => h) (Or.inl ⟨by rfl, ?hy3⟩) (by assumption) ?rest3
              case hy3 => (intro w hSw; obtain ⟨p0,p1⟩ := hSw; go_simp; try with_reducible rfl)
              try simp only [Act.put, List.setIfInBounds_toArray, List.set_cons_zero, List.set_cons_succ]
              refine wpAnyH_take (i := 4) (oi := { dst := some 38, op := _, type := _, pos := _, after := _, guard := _ }) (v := (.int .i64 0)) rfl (by kernel_rfl) (by kernel_rfl) (by kernel_rfl) (fun _ _ _ h => h) (Or.inl ⟨by rfl, ?hy4⟩) (by assumption) ?rest4
              case hy4 => (intro w hSw; obtain ⟨p0,p1⟩ := hSw; first | (go_simp; done) | (go_simp; simp [*]; done) | (simp [*]; go_simp; done))
              try simp only [Act.put, List.setIfInBounds_toArray, List.set_cons_zero, List.set_cons_succ]
              refine wpAnyH_take (i := 5) (oi := { dst := some 39, op := _, type := _, pos := _, after := _, guard := _ }) (v := (.pointer (some ⟨PA, 0, none⟩))) rfl (by kernel_rfl) (by kernel_rfl) (by kernel_rfl) (fun _ _ _ h => h) (Or.inl ⟨by rfl, ?hy5⟩) (by assumption) ?rest5
              case hy5 => (intro w hSw; obtain ⟨p0,p1⟩ := hSw; first | (go_simp; done) | (go_simp; simp [*]; done) | (simp [*]; go_simp; done))
              try simp only [Act.put, List.setIfInBounds_toArray, List.set_cons_zero, List.set_cons_succ]
              refine wpAnyH_take (i := 6) (oi := { dst := some 40, op := _, type := _, pos := _, after := _, guard := _ }) (v := (.pointer (some ⟨R0, 0, none⟩))) rfl (by kernel_rfl) (by kernel_rfl) (by kernel_rfl) (fun _ _ _ h => h) (Or.inl ⟨by rfl, ?hy6⟩) (by assumption) ?rest6
              case hy6 => (intro w hSw; obtain ⟨p0,p1⟩ := hSw; first | (go_simp; done) | (go_simp; simp [*]; done) | (simp [*]; go_simp; done))
              try simp only [Act.put, List.setIfInBounds_toArray, List.set_cons_zero, List.set_cons_succ]
              refine wpAnyH_ready (rs := [7]) (by kernel_rfl) (by simp) ?_
              refine AllReadyH.cons (o := { dst := some 41, op := _, type := _, pos := _, after := _, guard := _ }) rfl (fun K hK => ?_) AllReadyH.nil
              go_simp
              refine MC.out.mono ?_
              rintro _ w2 ⟨R2, rfl, hh2⟩
              have sx2 := SX.out w2 (hh2.side (X, _) (by first | exact .head _ | exact .tail _ (.head _) | exact .tail _ (.tail _ (.head _))))
              have sp2 := two_cl (show w2.heap[PA]? = some (arr R0 R1) from hh2.side (PA, _) (by first | exact .head _ | exact .tail _ (.head _) | exact .tail _ (.tail _ (.head _))))
              have S2 : Kept (w2.cell? ⟨X, 0, none⟩ = some (.int .i64 0) ∧ w2.cell? ⟨PA, 0, none⟩ = some (.pointer (some ⟨R0, 0, none⟩))) := ⟨sx2.1, sp2.1⟩
              obtain ⟨W3, hW3⟩ : ∃ x, w2.setCell ⟨PA, 1, none⟩ (.pointer (some ⟨R2, 0, none⟩)) = x := ⟨_, rfl⟩
              have hh3 : Half W [(PA, arr R0 R2), (X, sto), (MB, arm b0 b1)] W3 (R0, b0) R2 := Half.put (i := 1) (hh2.less (Sd' := [(PA, arr R0 R1), (X, sto), (MB, arm b0 b1)]) (fun p hp => by simp at hp ⊢; rcases hp with hp | hp | hp <;> simp [hp])) (fun p hp => by
                rcases List.mem_cons.1 hp with rfl | hp
                · exact HXN.out.1
                · obtain rfl : p = _ := by simpa using hp
                  exact fun e => HPM.out.2.2 e.symm) hW3
              have sx3 := SX.out W3 (hh3.side (X, _) (by first | exact .head _ | exact .tail _ (.head _) | exact .tail _ (.tail _ (.head _))))
              have sp3 := two_cl (show W3.heap[PA]? = some (arr R0 R2) from hh3.side (PA, _) (by first | exact .head _ | exact .tail _ (.head _) | exact .tail _ (.tail _ (.head _))))
              have sm3 := two_cl (show W3.heap[MB]? = some (arm b0 b1) from hh3.side (MB, _) (by first | exact .head _ | exact .tail _ (.head _) | exact .tail _ (.tail _ (.head _))))
              have S3 : Kept (W3.cell? ⟨X, 0, none⟩ = some (.int .i64 0) ∧ W3.cell? ⟨PA, 0, none⟩ = some (.pointer (some ⟨R0, 0, none⟩))) := ⟨sx3.1, sp3.1⟩
              have S3m : Kept (W3.drew.cell? ⟨X, 0, none⟩ = some (.int .i64 0) ∧ W3.drew.cell? ⟨MB, 0, none⟩ = some (.pointer (some ⟨b0, 0, none⟩))) := ⟨sx3.1, sm3.1⟩
              have k2 := sp2.2.1
              have z2 := sp2.2.2
              have H3 := keep hh3
              clear hh2 hh3 sx2 sp2 sx3 sp3 sm3
              refine hK.out _ _ S2.out (fun hHeld => ?_)
              try simp only [Act.put, List.setIfInBounds_toArray, List.set_cons_zero, List.set_cons_succ]
              clear hK
              refine wpAnyH_take (i := 8) (oi := { dst := some 42, op := _, type := _, pos := _, after := _, guard := _ }) (v := (.pointer (some ⟨PA, 1, none⟩))) rfl (by kernel_rfl) (by kernel_rfl) (by kernel_rfl) (fun _ _ _ h => h) (Or.inl ⟨by rfl, ?hy7⟩) (by assumption) ?rest7
              case hy7 => (intro w hSw; obtain ⟨p0,p1⟩ := hSw; first | (go_simp; done) | (go_simp; simp [*]; done) | (simp [*]; go_simp; done))
              try simp only [Act.put, List.setIfInBounds_toArray, List.set_cons_zero, List.set_cons_succ]
              refine wpAnyH_ready (rs := [9]) (by kernel_rfl) (by simp) ?_
              refine AllReadyH.cons (o := { dst := none, op := _, type := _, pos := _, after := _, guard := _ }) rfl (fun K hK => ?_) AllReadyH.nil
              go_simp
              try rw [hW3]
              refine hK.out _ _ S3.out (fun hHeld => ?_)
              try simp only [Act.put, List.setIfInBounds_toArray, List.set_cons_zero, List.set_cons_succ]
              clear hK
              refine wpAnyH_done (by kernel_rfl) ?_ _
              clear hHeld
              clear k2 z2 MC S2 S3
              have MD := keep (half_copy H3.out.drew)
              go_wp2_with fail
              refine wp_region_held_drew (S := fun W => W.cell? ⟨X, 0, none⟩ = some (.int .i64 0) ∧ W.cell? ⟨MB, 0, none⟩ = some (.pointer (some ⟨b0, 0, none⟩))) (by kernel_rfl) S3m.out (fun hHeld => ?_)
              refine wpAnyH_take (i := 0) (oi := { dst := some 43, op := _, type := _, pos := _, after := _, guard := _ }) (v := ?v8) rfl (by kernel_rfl) (by kernel_rfl) (by kernel_rfl) (fun _ _ _ h => h) (Or.inl ⟨by rfl, ?hy8⟩) (by assumption) ?rest8
              case hy8 => (intro w hSw; obtain ⟨p0,p1⟩ := hSw; go_simp; try with_reducible rfl)
              try simp only [Act.put, List.setIfInBounds_toArray, List.set_cons_zero, List.set_cons_succ]
              refine wpAnyH_take (i := 1) (oi := { dst := some 44, op := _, type := _, pos := _, after := _, guard := _ }) (v := (.int .i64 0)) rfl (by kernel_rfl) (by kernel_rfl) (by kernel_rfl) (fun _ _ _ h => h) (Or.inl ⟨by rfl, ?hy9⟩) (by assumption) ?rest9
              case hy9 => (intro w hSw; obtain ⟨p0,p1⟩ := hSw; first | (go_simp; done) | (go_simp; simp [*]; done) | (simp [*]; go_simp; done))
              try simp only [Act.put, List.setIfInBounds_toArray, List.set_cons_zero, List.set_cons_succ]
              refine wpAnyH_take (i := 2) (oi := { dst := some 45, op := _, type := _, pos := _, after := _, guard := _ }) (v := (.int .i64 1)) rfl (by kernel_rfl) (by kernel_rfl) (by kernel_rfl) (fun _ _ _ h => h) (Or.inl ⟨by rfl, by intro w hSw; first | rfl | (go_simp; rfl) | (go_simp; decide)⟩) (by assumption) ?_
              try simp only [Act.put, List.setIfInBounds_toArray, List.set_cons_zero, List.set_cons_succ]
              refine wpAnyH_take (i := 3) (oi := { dst := some 46, op := _, type := _, pos := _, after := _, guard := _ }) (v := ?v10) rfl (by kernel_rfl) (by kernel_rfl) (by kernel_rfl) (fun _ _ _ h => h) (Or.inl ⟨by rfl, ?hy10⟩) (by assumption) ?rest10
              case hy10 => (intro w hSw; obtain ⟨p0,p1⟩ := hSw; go_simp; try with_reducible rfl)
              try simp only [Act.put, List.setIfInBounds_toArray, List.set_cons_zero, List.set_cons_succ]
              refine wpAnyH_take (i := 4) (oi := { dst := some 47, op := _, type := _, pos := _, after := _, guard := _ }) (v := (.int .i64 0)) rfl (by kernel_rfl) (by kernel_rfl) (by kernel_rfl) (fun _ _ _ h => h) (Or.inl ⟨by rfl, ?hy11⟩) (by assumption) ?rest11
              case hy11 => (intro w hSw; obtain ⟨p0,p1⟩ := hSw; first | (go_simp; done) | (go_simp; simp [*]; done) | (simp [*]; go_simp; done))
              try simp only [Act.put, List.setIfInBounds_toArray, List.set_cons_zero, List.set_cons_succ]
              refine wpAnyH_take (i := 5) (oi := { dst := some 48, op := _, type := _, pos := _, after := _, guard := _ }) (v := (.pointer (some ⟨MB, 0, none⟩))) rfl (by kernel_rfl) (by kernel_rfl) (by kernel_rfl) (fun _ _ _ h => h) (Or.inl ⟨by rfl, ?hy12⟩) (by assumption) ?rest12
              case hy12 => (intro w hSw; obtain ⟨p0,p1⟩ := hSw; first | (go_simp; done) | (go_simp; simp [*]; done) | (simp [*]; go_simp; done))
              try simp only [Act.put, List.setIfInBounds_toArray, List.set_cons_zero, List.set_cons_succ]
              refine wpAnyH_take (i := 6) (oi := { dst := some 49, op := _, type := _, pos := _, after := _, guard := _ }) (v := (.pointer (some ⟨b0, 0, none⟩))) rfl (by kernel_rfl) (by kernel_rfl) (by kernel_rfl) (fun _ _ _ h => h) (Or.inl ⟨by rfl, ?hy13⟩) (by assumption) ?rest13
              case hy13 => (intro w hSw; obtain ⟨p0,p1⟩ := hSw; first | (go_simp; done) | (go_simp; simp [*]; done) | (simp [*]; go_simp; done))
              try simp only [Act.put, List.setIfInBounds_toArray, List.set_cons_zero, List.set_cons_succ]
              refine wpAnyH_ready (rs := [7]) (by kernel_rfl) (by simp) ?_
              refine AllReadyH.cons (o := { dst := some 50, op := _, type := _, pos := _, after := _, guard := _ }) rfl (fun K hK => ?_) AllReadyH.nil
              go_simp
              refine MD.out.mono ?_
              rintro _ w4 ⟨b2, rfl, hh4, _⟩
              have sx4 := SX.out w4 (hh4.side (X, _) (by first | exact .head _ | exact .tail _ (.head _) | exact .tail _ (.tail _ (.head _))))
              have sm4 := two_cl (show w4.heap[MB]? = some (arm b0 b1) from hh4.side (MB, _) (by first | exact .head _ | exact .tail _ (.head _) | exact .tail _ (.tail _ (.head _))))
              have S4 : Kept (w4.cell? ⟨X, 0, none⟩ = some (.int .i64 0) ∧ w4.cell? ⟨MB, 0, none⟩ = some (.pointer (some ⟨b0, 0, none⟩))) := ⟨sx4.1, sm4.1⟩
              obtain ⟨W5, hW5⟩ : ∃ x, w4.setCell ⟨MB, 1, none⟩ (.pointer (some ⟨b2, 0, none⟩)) = x := ⟨_, rfl⟩
              have hh5 : Duo W [(MB, arm b0 b2), (X, sto), (PA, arr R0 R2)] W5 (R0, b0) (R2, b2) := Duo.put (i := 1) (hh4.less (Sd' := [(MB, arm b0 b1), (X, sto), (PA, arr R0 R2)]) (fun p hp => by simp at hp ⊢; rcases hp with hp | hp | hp <;> simp [hp])) HPM.out.2.1 (fun p hp => by
                rcases List.mem_cons.1 hp with rfl | hp
                · exact HXN.out.2.1
                · obtain rfl : p = _ := by simpa using hp
                  exact HPM.out.2.2) hW5
              have sx5 := SX.out W5 (hh5.side (X, _) (by first | exact .head _ | exact .tail _ (.head _) | exact .tail _ (.tail _ (.head _))))
              have sm5 := two_cl (show W5.heap[MB]? = some (arm b0 b2) from hh5.side (MB, _) (by first | exact .head _ | exact .tail _ (.head _) | exact .tail _ (.tail _ (.head _))))
              have S5 : Kept (W5.cell? ⟨X, 0, none⟩ = some (.int .i64 0) ∧ W5.cell? ⟨MB, 0, none⟩ = some (.pointer (some ⟨b0, 0, none⟩))) := ⟨sx5.1, sm5.1⟩
              have k4 := sm4.2.1
              have z4 := sm4.2.2
              have H5 := keep ((hh5.less (Sd' := [(PA, arr R0 R2), (MB, arm b0 b2)]) (fun p hp => by simp at hp ⊢; rcases hp with hp | hp <;> simp [hp])))
              clear hh4 hh5 sx4 sm4 sx5 sm5
              refine hK.out _ _ S4.out (fun hHeld => ?_)
              try simp only [Act.put, List.setIfInBounds_toArray, List.set_cons_zero, List.set_cons_succ]
              clear hK
              refine wpAnyH_take (i := 8) (oi := { dst := some 51, op := _, type := _, pos := _, after := _, guard := _ }) (v := (.pointer (some ⟨MB, 1, none⟩))) rfl (by kernel_rfl) (by kernel_rfl) (by kernel_rfl) (fun _ _ _ h => h) (Or.inl ⟨by rfl, ?hy14⟩) (by assumption) ?rest14
              case hy14 => (intro w hSw; obtain ⟨p0,p1⟩ := hSw; first | (go_simp; done) | (go_simp; simp [*]; done) | (simp [*]; go_simp; done))
              try simp only [Act.put, List.setIfInBounds_toArray, List.set_cons_zero, List.set_cons_succ]
              refine wpAnyH_ready (rs := [9]) (by kernel_rfl) (by simp) ?_
              refine AllReadyH.cons (o := { dst := none, op := _, type := _, pos := _, after := _, guard := _ }) rfl (fun K hK => ?_) AllReadyH.nil
              go_simp
              try rw [hW5]
              refine hK.out _ _ S5.out (fun hHeld => ?_)
              try simp only [Act.put, List.setIfInBounds_toArray, List.set_cons_zero, List.set_cons_succ]
              clear hK
              refine wpAnyH_done (by kernel_rfl) ?_ _
              clear hHeld
              clear k4 z4 MD S4 S5 S3m
              go_wp2
              go_roundg (nS - (k + 1))
              case measure => omega
              case rel => exact ⟨k + 1, by simp, by omega, Nat.le_refl _, R0, b0, R2, b2, H5.out⟩
            · have h7b : (act == 7) = false := beq_eq_false_iff_ne.2 h7
              have PX := keep ((P1.out).below (Below.refl _ W1).drew)
              have MP := keep (duo_plays PX.out 0 act sa sb key x y ox oy KEY.out)
              unfold stV at MP
              have CS : Kept (∀ wz, Duo W [(X, sto), (PA, arr R0 R1), (MB, arm b0 b1)] wz (R0, b0) (R1, b1) → (wz.cell? ⟨X, 0, none⟩ = some (.int .i64 0) ∧ wz.cell? ⟨X, 1, none⟩ = some (.int .i64 act) ∧ wz.cell? ⟨X, 2, none⟩ = some (.int .i64 sa) ∧ wz.cell? ⟨X, 3, none⟩ = some (.int .i64 sb) ∧ wz.cell? ⟨X, 4, none⟩ = some (.string key) ∧ wz.cell? ⟨X, 5, none⟩ = some (.int .u64 (x : Int)) ∧ wz.cell? ⟨X, 6, none⟩ = some (.int .u64 (y : Int)) ∧ wz.cell? ⟨X, 7, none⟩ = some (.bool ox) ∧ wz.cell? ⟨X, 8, none⟩ = some (.bool oy)) ∧ wz.cell? ⟨PA, 0, none⟩ = some (.pointer (some ⟨R0, 0, none⟩)) ∧ wz.cell? ⟨MB, 0, none⟩ = some (.pointer (some ⟨b0, 0, none⟩))) := fun wz h => ⟨SX.out wz (h.side (X, _) (by first | exact .head _ | exact .tail _ (.head _) | exact .tail _ (.tail _ (.head _)))), (two_cl (show wz.heap[PA]? = some (arr R0 R1) from h.side (PA, _) (by first | exact .head _ | exact .tail _ (.head _) | exact .tail _ (.tail _ (.head _))))).1, (two_cl (show wz.heap[MB]? = some (arm b0 b1) from h.side (MB, _) (by first | exact .head _ | exact .tail _ (.head _) | exact .tail _ (.tail _ (.head _))))).1⟩
              have S1 := keep (CS.out _ PX.out)
              clear x2 x3 x4 x5 x6 x7 x8 PX
              go_wp2_with fail
              refine wp_region_held_drew (S := fun W => (W.cell? ⟨X, 0, none⟩ = some (.int .i64 0) ∧ W.cell? ⟨X, 1, none⟩ = some (.int .i64 act) ∧ W.cell? ⟨X, 2, none⟩ = some (.int .i64 sa) ∧ W.cell? ⟨X, 3, none⟩ = some (.int .i64 sb) ∧ W.cell? ⟨X, 4, none⟩ = some (.string key) ∧ W.cell? ⟨X, 5, none⟩ = some (.int .u64 (x : Int)) ∧ W.cell? ⟨X, 6, none⟩ = some (.int .u64 (y : Int)) ∧ W.cell? ⟨X, 7, none⟩ = some (.bool ox) ∧ W.cell? ⟨X, 8, none⟩ = some (.bool oy)) ∧ W.cell? ⟨PA, 0, none⟩ = some (.pointer (some ⟨R0, 0, none⟩)) ∧ W.cell? ⟨MB, 0, none⟩ = some (.pointer (some ⟨b0, 0, none⟩))) (by kernel_rfl) S1.out (fun hHeld => ?_)
              refine wpAnyH_take (i := 0) (oi := { dst := some 52, op := _, type := _, pos := _, after := _, guard := _ }) (v := ?v15) rfl (by kernel_rfl) (by kernel_rfl) (by kernel_rfl) (fun _ _ _ h => h) (Or.inl ⟨by rfl, ?hy15⟩) (by assumption) ?rest15
              case hy15 => (intro w hSw; obtain ⟨⟨p0,p1,p2,p3,p4,p5,p6,p7,p8⟩,p9,p10⟩ := hSw; go_simp; try with_reducible rfl)
              try simp only [Act.put, List.setIfInBounds_toArray, List.set_cons_zero, List.set_cons_succ]
              refine wpAnyH_take (i := 1) (oi := { dst := some 53, op := _, type := _, pos := _, after := _, guard := _ }) (v := (.int .i64 0)) rfl (by kernel_rfl) (by kernel_rfl) (by kernel_rfl) (fun _ _ _ h => h) (Or.inl ⟨by rfl, ?hy16⟩) (by assumption) ?rest16
              case hy16 => (intro w hSw; obtain ⟨⟨p0,p1,p2,p3,p4,p5,p6,p7,p8⟩,p9,p10⟩ := hSw; first | (go_simp; done) | (go_simp; simp [*]; done) | (simp [*]; go_simp; done))
              try simp only [Act.put, List.setIfInBounds_toArray, List.set_cons_zero, List.set_cons_succ]
              refine wpAnyH_take (i := 2) (oi := { dst := some 54, op := _, type := _, pos := _, after := _, guard := _ }) (v := (.pointer (some ⟨PA, 0, none⟩))) rfl (by kernel_rfl) (by kernel_rfl) (by kernel_rfl) (fun _ _ _ h => h) (Or.inl ⟨by rfl, ?hy17⟩) (by assumption) ?rest17
              case hy17 => (intro w hSw; obtain ⟨⟨p0,p1,p2,p3,p4,p5,p6,p7,p8⟩,p9,p10⟩ := hSw; first | (go_simp; done) | (go_simp; simp [*]; done) | (simp [*]; go_simp; done))
              try simp only [Act.put, List.setIfInBounds_toArray, List.set_cons_zero, List.set_cons_succ]
              refine wpAnyH_take (i := 3) (oi := { dst := some 55, op := _, type := _, pos := _, after := _, guard := _ }) (v := (.pointer (some ⟨R0, 0, none⟩))) rfl (by kernel_rfl) (by kernel_rfl) (by kernel_rfl) (fun _ _ _ h => h) (Or.inl ⟨by rfl, ?hy18⟩) (by assumption) ?rest18
              case hy18 => (intro w hSw; obtain ⟨⟨p0,p1,p2,p3,p4,p5,p6,p7,p8⟩,p9,p10⟩ := hSw; first | (go_simp; done) | (go_simp; simp [*]; done) | (simp [*]; go_simp; done))
              try simp only [Act.put, List.setIfInBounds_toArray, List.set_cons_zero, List.set_cons_succ]
              refine wpAnyH_take (i := 4) (oi := { dst := some 56, op := _, type := _, pos := _, after := _, guard := _ }) (v := (.bool false)) rfl (by kernel_rfl) (by kernel_rfl) (by kernel_rfl) (fun _ _ _ h => h) (Or.inl ⟨by rfl, ?hy19⟩) (by assumption) ?rest19
              case hy19 => (intro w hSw; obtain ⟨⟨p0,p1,p2,p3,p4,p5,p6,p7,p8⟩,p9,p10⟩ := hSw; first | (go_simp; done) | (go_simp; simp [*]; done) | (simp [*]; go_simp; done))
              try simp only [Act.put, List.setIfInBounds_toArray, List.set_cons_zero, List.set_cons_succ]
              refine wpAnyH_take (i := 5) (oi := { dst := some 57, op := _, type := _, pos := _, after := _, guard := _ }) (v := (.bool false)) rfl (by kernel_rfl) (by kernel_rfl) (by kernel_rfl) (fun _ _ _ h => h) (Or.inl ⟨by rfl, ?hy20⟩) (by assumption) ?rest20
              case hy20 => (intro w hSw; obtain ⟨⟨p0,p1,p2,p3,p4,p5,p6,p7,p8⟩,p9,p10⟩ := hSw; first | (go_simp; done) | (go_simp; simp [*]; done) | (simp [*]; go_simp; done))
              try simp only [Act.put, List.setIfInBounds_toArray, List.set_cons_zero, List.set_cons_succ]
              refine wpAnyH_take (i := 6) (oi := { dst := some 58, op := _, type := _, pos := _, after := _, guard := _ }) (v := ?v21) rfl (by kernel_rfl) (by kernel_rfl) (by kernel_rfl) (fun _ _ _ h => h) (Or.inl ⟨by rfl, ?hy21⟩) (by assumption) ?rest21
              case hy21 => (intro w hSw; obtain ⟨⟨p0,p1,p2,p3,p4,p5,p6,p7,p8⟩,p9,p10⟩ := hSw; go_simp; try with_reducible rfl)
              try simp only [Act.put, List.setIfInBounds_toArray, List.set_cons_zero, List.set_cons_succ]
              refine wpAnyH_take (i := 7) (oi := { dst := some 59, op := _, type := _, pos := _, after := _, guard := _ }) (v := (.int .i64 0)) rfl (by kernel_rfl) (by kernel_rfl) (by kernel_rfl) (fun _ _ _ h => h) (Or.inl ⟨by rfl, ?hy22⟩) (by assumption) ?rest22
              case hy22 => (intro w hSw; obtain ⟨⟨p0,p1,p2,p3,p4,p5,p6,p7,p8⟩,p9,p10⟩ := hSw; first | (go_simp; done) | (go_simp; simp [*]; done) | (simp [*]; go_simp; done))
              try simp only [Act.put, List.setIfInBounds_toArray, List.set_cons_zero, List.set_cons_succ]
              refine wpAnyH_take (i := 8) (oi := { dst := some 60, op := _, type := _, pos := _, after := _, guard := _ }) (v := (.pointer (some ⟨PA, 0, none⟩))) rfl (by kernel_rfl) (by kernel_rfl) (by kernel_rfl) (fun _ _ _ h => h) (Or.inl ⟨by rfl, ?hy23⟩) (by assumption) ?rest23
              case hy23 => (intro w hSw; obtain ⟨⟨p0,p1,p2,p3,p4,p5,p6,p7,p8⟩,p9,p10⟩ := hSw; first | (go_simp; done) | (go_simp; simp [*]; done) | (simp [*]; go_simp; done))
              try simp only [Act.put, List.setIfInBounds_toArray, List.set_cons_zero, List.set_cons_succ]
              refine wpAnyH_take (i := 9) (oi := { dst := some 61, op := _, type := _, pos := _, after := _, guard := _ }) (v := (.pointer (some ⟨R0, 0, none⟩))) rfl (by kernel_rfl) (by kernel_rfl) (by kernel_rfl) (fun _ _ _ h => h) (Or.inl ⟨by rfl, ?hy24⟩) (by assumption) ?rest24
              case hy24 => (intro w hSw; obtain ⟨⟨p0,p1,p2,p3,p4,p5,p6,p7,p8⟩,p9,p10⟩ := hSw; first | (go_simp; done) | (go_simp; simp [*]; done) | (simp [*]; go_simp; done))
              try simp only [Act.put, List.setIfInBounds_toArray, List.set_cons_zero, List.set_cons_succ]
              refine wpAnyH_take (i := 10) (oi := { dst := some 62, op := _, type := _, pos := _, after := _, guard := _ }) (v := ?v25) rfl (by kernel_rfl) (by kernel_rfl) (by kernel_rfl) (fun _ _ _ h => h) (Or.inl ⟨by rfl, ?hy25⟩) (by assumption) ?rest25
              case hy25 => (intro w hSw; obtain ⟨⟨p0,p1,p2,p3,p4,p5,p6,p7,p8⟩,p9,p10⟩ := hSw; go_simp; try with_reducible rfl)
              try simp only [Act.put, List.setIfInBounds_toArray, List.set_cons_zero, List.set_cons_succ]
              refine wpAnyH_take (i := 11) (oi := { dst := some 63, op := _, type := _, pos := _, after := _, guard := _ }) (v := (.int .i64 0)) rfl (by kernel_rfl) (by kernel_rfl) (by kernel_rfl) (fun _ _ _ h => h) (Or.inl ⟨by rfl, ?hy26⟩) (by assumption) ?rest26
              case hy26 => (intro w hSw; obtain ⟨⟨p0,p1,p2,p3,p4,p5,p6,p7,p8⟩,p9,p10⟩ := hSw; first | (go_simp; done) | (go_simp; simp [*]; done) | (simp [*]; go_simp; done))
              try simp only [Act.put, List.setIfInBounds_toArray, List.set_cons_zero, List.set_cons_succ]
              refine wpAnyH_take (i := 12) (oi := { dst := some 64, op := _, type := _, pos := _, after := _, guard := _ }) (v := (.pointer (some ⟨MB, 0, none⟩))) rfl (by kernel_rfl) (by kernel_rfl) (by kernel_rfl) (fun _ _ _ h => h) (Or.inl ⟨by rfl, ?hy27⟩) (by assumption) ?rest27
              case hy27 => (intro w hSw; obtain ⟨⟨p0,p1,p2,p3,p4,p5,p6,p7,p8⟩,p9,p10⟩ := hSw; first | (go_simp; done) | (go_simp; simp [*]; done) | (simp [*]; go_simp; done))
              try simp only [Act.put, List.setIfInBounds_toArray, List.set_cons_zero, List.set_cons_succ]
              refine wpAnyH_take (i := 13) (oi := { dst := some 65, op := _, type := _, pos := _, after := _, guard := _ }) (v := (.pointer (some ⟨b0, 0, none⟩))) rfl (by kernel_rfl) (by kernel_rfl) (by kernel_rfl) (fun _ _ _ h => h) (Or.inl ⟨by rfl, ?hy28⟩) (by assumption) ?rest28
              case hy28 => (intro w hSw; obtain ⟨⟨p0,p1,p2,p3,p4,p5,p6,p7,p8⟩,p9,p10⟩ := hSw; first | (go_simp; done) | (go_simp; simp [*]; done) | (simp [*]; go_simp; done))
              try simp only [Act.put, List.setIfInBounds_toArray, List.set_cons_zero, List.set_cons_succ]
              refine wpAnyH_take (i := 14) (oi := { dst := some 66, op := _, type := _, pos := _, after := _, guard := _ }) (v := (.agg #[.int .i64 0, .int .i64 act, .int .i64 sa, .int .i64 sb, .string key, .int .u64 (x : Int), .int .u64 (y : Int), .bool ox, .bool oy])) rfl (by kernel_rfl) (by kernel_rfl) (by kernel_rfl) (fun _ _ _ h => h) (Or.inl ⟨by rfl, ?hy29⟩) (by assumption) ?rest29
              case hy29 => (intro w hSw; obtain ⟨⟨p0,p1,p2,p3,p4,p5,p6,p7,p8⟩,p9,p10⟩ := hSw; first | (go_simp; done) | (go_simp; simp [*]; done) | (simp [*]; go_simp; done))
              try simp only [Act.put, List.setIfInBounds_toArray, List.set_cons_zero, List.set_cons_succ]
              refine wpAnyH_ready (rs := [15]) (by kernel_rfl) (by simp) ?_
              refine AllReadyH.cons (o := { dst := some 67, op := _, type := _, pos := _, after := _, guard := _ }) rfl (fun K hK => ?_) AllReadyH.nil
              go_simp
              refine MP.out.mono ?_
              rintro _ w3 ⟨rfl, d3⟩
              have S3 := keep (CS.out w3 d3)
              have P2 : Kept (Duo W [(PA, arr R0 R1), (MB, arm b0 b1)] w3 (R0, b0) (R1, b1)) := (d3).less (fun p hp => by simp at hp ⊢; rcases hp with hp | hp <;> simp [hp])
              refine hK.out _ _ S3.out (fun hHeld => ?_)
              try simp only [Act.put, List.setIfInBounds_toArray, List.set_cons_zero, List.set_cons_succ]
              clear hK MP d3 CS S1 P1
              refine wpAnyH_take (i := 16) (oi := { dst := some 68, op := _, type := _, pos := _, after := _, guard := _ }) (v := (.bool false)) rfl (by kernel_rfl) (by kernel_rfl) (by kernel_rfl) (fun _ _ _ h => h) (Or.inl ⟨by rfl, ?hy30⟩) (by assumption) ?rest30
              case hy30 => (intro w hSw; first | (go_simp; done) | (go_simp; simp [*]; done) | (simp [*]; go_simp; done))
              try simp only [Act.put, List.setIfInBounds_toArray, List.set_cons_zero, List.set_cons_succ]
              refine wpAnyH_take (i := 17) (oi := { dst := some 69, op := _, type := _, pos := _, after := _, guard := _ }) (v := (.bool false)) rfl (by kernel_rfl) (by kernel_rfl) (by kernel_rfl) (fun _ _ _ h => h) (Or.inl ⟨by rfl, ?hy31⟩) (by assumption) ?rest31
              case hy31 => (intro w hSw; first | (go_simp; done) | (go_simp; simp [*]; done) | (simp [*]; go_simp; done))
              try simp only [Act.put, List.setIfInBounds_toArray, List.set_cons_zero, List.set_cons_succ]
              refine wpAnyH_done (by kernel_rfl) ?_ _
              clear hHeld S3
              go_wp2
              go_roundg (nS - (k + 1))
              case measure => omega
              case rel => exact ⟨k + 1, by simp, by omega, Nat.le_refl _, R0, b0, R1, b1, P2.out⟩
          · by_cases h7 : act = 7
            · subst h7
              have PX := keep ((P1.out.swap).below (Below.refl _ W1).drew)
              have MC := keep (duo_copy PX.out SD.out)
              have sp1 := two_cl (show W1.heap[PA]? = some (arr R0 R1) from P1.out.side (PA, _) (by first | exact .head _ | exact .tail _ (.head _) | exact .tail _ (.tail _ (.head _))))
              have S1 : Kept (W1.drew.cell? ⟨X, 0, none⟩ = some (.int .i64 1) ∧ W1.drew.cell? ⟨PA, 1, none⟩ = some (.pointer (some ⟨R1, 0, none⟩))) := ⟨x0, sp1.2.1⟩
              clear x2 x3 x4 x5 x6 x7 x8 sp1 P1 PX
              go_wp2_with fail
              refine wp_region_held_drew (S := fun W => W.cell? ⟨X, 0, none⟩ = some (.int .i64 1) ∧ W.cell? ⟨PA, 1, none⟩ = some (.pointer (some ⟨R1, 0, none⟩))) (by kernel_rfl) S1.out (fun hHeld => ?_)
              refine wpAnyH_take (i := 0) (oi := { dst := some 34, op := _, type := _, pos := _, after := _, guard := _ }) (v := ?v32) rfl (by kernel_rfl) (by kernel_rfl) (by kernel_rfl) (fun _ _ _ h => h) (Or.inl ⟨by rfl, ?hy32⟩) (by assumption) ?rest32
              case hy32 => (intro w hSw; obtain ⟨p0,p1⟩ := hSw; go_simp; try with_reducible rfl)
              try simp only [Act.put, List.setIfInBounds_toArray, List.set_cons_zero, List.set_cons_succ]
              refine wpAnyH_take (i := 1) (oi := { dst := some 35, op := _, type := _, pos := _, after := _, guard := _ }) (v := (.int .i64 1)) rfl (by kernel_rfl) (by kernel_rfl) (by kernel_rfl) (fun _ _ _ h => h) (Or.inl ⟨by rfl, ?hy33⟩) (by assumption) ?rest33
              case hy33 => (intro w hSw; obtain ⟨p0,p1⟩ := hSw; first | (go_simp; done) | (go_simp; simp [*]; done) | (simp [*]; go_simp; done))
              try simp only [Act.put, List.setIfInBounds_toArray, List.set_cons_zero, List.set_cons_succ]
              refine wpAnyH_take (i := 2) (oi := { dst := some 36, op := _, type := _, pos := _, after := _, guard := _ }) (v := (.int .i64 0)) rfl (by kernel_rfl) (by kernel_rfl) (by kernel_rfl) (fun _ _ _ h => h) (Or.inl ⟨by rfl, by intro w hSw; first | rfl | (go_simp; rfl) | (go_simp; decide)⟩) (by assumption) ?_
              try simp only [Act.put, List.setIfInBounds_toArray, List.set_cons_zero, List.set_cons_succ]
              refine wpAnyH_take (i := 3) (oi := { dst := some 37, op := _, type := _, pos := _, after := _, guard := _ }) (v := ?v34) rfl (by kernel_rfl) (by kernel_rfl) (by kernel_rfl) (fun _ _ _ h => h) (Or.inl ⟨by rfl, ?hy34⟩) (by assumption) ?rest34
              case hy34 => (intro w hSw; obtain ⟨p0,p1⟩ := hSw; go_simp; try with_reducible rfl)
              try simp only [Act.put, List.setIfInBounds_toArray, List.set_cons_zero, List.set_cons_succ]
              refine wpAnyH_take (i := 4) (oi := { dst := some 38, op := _, type := _, pos := _, after := _, guard := _ }) (v := (.int .i64 1)) rfl (by kernel_rfl) (by kernel_rfl) (by kernel_rfl) (fun _ _ _ h => h) (Or.inl ⟨by rfl, ?hy35⟩) (by assumption) ?rest35
              case hy35 => (intro w hSw; obtain ⟨p0,p1⟩ := hSw; first | (go_simp; done) | (go_simp; simp [*]; done) | (simp [*]; go_simp; done))
              try simp only [Act.put, List.setIfInBounds_toArray, List.set_cons_zero, List.set_cons_succ]
              refine wpAnyH_take (i := 5) (oi := { dst := some 39, op := _, type := _, pos := _, after := _, guard := _ }) (v := (.pointer (some ⟨PA, 1, none⟩))) rfl (by kernel_rfl) (by kernel_rfl) (by kernel_rfl) (fun _ _ _ h => h) (Or.inl ⟨by rfl, ?hy36⟩) (by assumption) ?rest36
              case hy36 => (intro w hSw; obtain ⟨p0,p1⟩ := hSw; first | (go_simp; done) | (go_simp; simp [*]; done) | (simp [*]; go_simp; done))
              try simp only [Act.put, List.setIfInBounds_toArray, List.set_cons_zero, List.set_cons_succ]
              refine wpAnyH_take (i := 6) (oi := { dst := some 40, op := _, type := _, pos := _, after := _, guard := _ }) (v := (.pointer (some ⟨R1, 0, none⟩))) rfl (by kernel_rfl) (by kernel_rfl) (by kernel_rfl) (fun _ _ _ h => h) (Or.inl ⟨by rfl, ?hy37⟩) (by assumption) ?rest37
              case hy37 => (intro w hSw; obtain ⟨p0,p1⟩ := hSw; first | (go_simp; done) | (go_simp; simp [*]; done) | (simp [*]; go_simp; done))
              try simp only [Act.put, List.setIfInBounds_toArray, List.set_cons_zero, List.set_cons_succ]
              refine wpAnyH_ready (rs := [7]) (by kernel_rfl) (by simp) ?_
              refine AllReadyH.cons (o := { dst := some 41, op := _, type := _, pos := _, after := _, guard := _ }) rfl (fun K hK => ?_) AllReadyH.nil
              go_simp
              refine MC.out.mono ?_
              rintro _ w2 ⟨R2, rfl, hh2⟩
              have sx2 := SX.out w2 (hh2.side (X, _) (by first | exact .head _ | exact .tail _ (.head _) | exact .tail _ (.tail _ (.head _))))
              have sp2 := two_cl (show w2.heap[PA]? = some (arr R0 R1) from hh2.side (PA, _) (by first | exact .head _ | exact .tail _ (.head _) | exact .tail _ (.tail _ (.head _))))
              have S2 : Kept (w2.cell? ⟨X, 0, none⟩ = some (.int .i64 1) ∧ w2.cell? ⟨PA, 1, none⟩ = some (.pointer (some ⟨R1, 0, none⟩))) := ⟨sx2.1, sp2.2.1⟩
              obtain ⟨W3, hW3⟩ : ∃ x, w2.setCell ⟨PA, 0, none⟩ (.pointer (some ⟨R2, 0, none⟩)) = x := ⟨_, rfl⟩
              have hh3 : Half W [(PA, arr R2 R1), (X, sto), (MB, arm b0 b1)] W3 (R1, b1) R2 := Half.put (i := 0) (hh2.less (Sd' := [(PA, arr R0 R1), (X, sto), (MB, arm b0 b1)]) (fun p hp => by simp at hp ⊢; rcases hp with hp | hp | hp <;> simp [hp])) (fun p hp => by
                rcases List.mem_cons.1 hp with rfl | hp
                · exact HXN.out.1
                · obtain rfl : p = _ := by simpa using hp
                  exact fun e => HPM.out.2.2 e.symm) hW3
              have sx3 := SX.out W3 (hh3.side (X, _) (by first | exact .head _ | exact .tail _ (.head _) | exact .tail _ (.tail _ (.head _))))
              have sp3 := two_cl (show W3.heap[PA]? = some (arr R2 R1) from hh3.side (PA, _) (by first | exact .head _ | exact .tail _ (.head _) | exact .tail _ (.tail _ (.head _))))
              have sm3 := two_cl (show W3.heap[MB]? = some (arm b0 b1) from hh3.side (MB, _) (by first | exact .head _ | exact .tail _ (.head _) | exact .tail _ (.tail _ (.head _))))
              have S3 : Kept (W3.cell? ⟨X, 0, none⟩ = some (.int .i64 1) ∧ W3.cell? ⟨PA, 1, none⟩ = some (.pointer (some ⟨R1, 0, none⟩))) := ⟨sx3.1, sp3.2.1⟩
              have S3m : Kept (W3.drew.cell? ⟨X, 0, none⟩ = some (.int .i64 1) ∧ W3.drew.cell? ⟨MB, 1, none⟩ = some (.pointer (some ⟨b1, 0, none⟩))) := ⟨sx3.1, sm3.2.1⟩
              have k2 := sp2.1
              have z2 := sp2.2.2
              have H3 := keep hh3
              clear hh2 hh3 sx2 sp2 sx3 sp3 sm3
              refine hK.out _ _ S2.out (fun hHeld => ?_)
              try simp only [Act.put, List.setIfInBounds_toArray, List.set_cons_zero, List.set_cons_succ]
              clear hK
              refine wpAnyH_take (i := 8) (oi := { dst := some 42, op := _, type := _, pos := _, after := _, guard := _ }) (v := (.pointer (some ⟨PA, 0, none⟩))) rfl (by kernel_rfl) (by kernel_rfl) (by kernel_rfl) (fun _ _ _ h => h) (Or.inl ⟨by rfl, ?hy38⟩) (by assumption) ?rest38
              case hy38 => (intro w hSw; obtain ⟨p0,p1⟩ := hSw; first | (go_simp; done) | (go_simp; simp [*]; done) | (simp [*]; go_simp; done))
              try simp only [Act.put, List.setIfInBounds_toArray, List.set_cons_zero, List.set_cons_succ]
              refine wpAnyH_ready (rs := [9]) (by kernel_rfl) (by simp) ?_
              refine AllReadyH.cons (o := { dst := none, op := _, type := _, pos := _, after := _, guard := _ }) rfl (fun K hK => ?_) AllReadyH.nil
              go_simp
              try rw [hW3]
              refine hK.out _ _ S3.out (fun hHeld => ?_)
              try simp only [Act.put, List.setIfInBounds_toArray, List.set_cons_zero, List.set_cons_succ]
              clear hK
              refine wpAnyH_done (by kernel_rfl) ?_ _
              clear hHeld
              clear k2 z2 MC S2 S3
              have MD := keep (half_copy H3.out.drew)
              go_wp2_with fail
              refine wp_region_held_drew (S := fun W => W.cell? ⟨X, 0, none⟩ = some (.int .i64 1) ∧ W.cell? ⟨MB, 1, none⟩ = some (.pointer (some ⟨b1, 0, none⟩))) (by kernel_rfl) S3m.out (fun hHeld => ?_)
              refine wpAnyH_take (i := 0) (oi := { dst := some 43, op := _, type := _, pos := _, after := _, guard := _ }) (v := ?v39) rfl (by kernel_rfl) (by kernel_rfl) (by kernel_rfl) (fun _ _ _ h => h) (Or.inl ⟨by rfl, ?hy39⟩) (by assumption) ?rest39
              case hy39 => (intro w hSw; obtain ⟨p0,p1⟩ := hSw; go_simp; try with_reducible rfl)
              try simp only [Act.put, List.setIfInBounds_toArray, List.set_cons_zero, List.set_cons_succ]
              refine wpAnyH_take (i := 1) (oi := { dst := some 44, op := _, type := _, pos := _, after := _, guard := _ }) (v := (.int .i64 1)) rfl (by kernel_rfl) (by kernel_rfl) (by kernel_rfl) (fun _ _ _ h => h) (Or.inl ⟨by rfl, ?hy40⟩) (by assumption) ?rest40
              case hy40 => (intro w hSw; obtain ⟨p0,p1⟩ := hSw; first | (go_simp; done) | (go_simp; simp [*]; done) | (simp [*]; go_simp; done))
              try simp only [Act.put, List.setIfInBounds_toArray, List.set_cons_zero, List.set_cons_succ]
              refine wpAnyH_take (i := 2) (oi := { dst := some 45, op := _, type := _, pos := _, after := _, guard := _ }) (v := (.int .i64 0)) rfl (by kernel_rfl) (by kernel_rfl) (by kernel_rfl) (fun _ _ _ h => h) (Or.inl ⟨by rfl, by intro w hSw; first | rfl | (go_simp; rfl) | (go_simp; decide)⟩) (by assumption) ?_
              try simp only [Act.put, List.setIfInBounds_toArray, List.set_cons_zero, List.set_cons_succ]
              refine wpAnyH_take (i := 3) (oi := { dst := some 46, op := _, type := _, pos := _, after := _, guard := _ }) (v := ?v41) rfl (by kernel_rfl) (by kernel_rfl) (by kernel_rfl) (fun _ _ _ h => h) (Or.inl ⟨by rfl, ?hy41⟩) (by assumption) ?rest41
              case hy41 => (intro w hSw; obtain ⟨p0,p1⟩ := hSw; go_simp; try with_reducible rfl)
              try simp only [Act.put, List.setIfInBounds_toArray, List.set_cons_zero, List.set_cons_succ]
              refine wpAnyH_take (i := 4) (oi := { dst := some 47, op := _, type := _, pos := _, after := _, guard := _ }) (v := (.int .i64 1)) rfl (by kernel_rfl) (by kernel_rfl) (by kernel_rfl) (fun _ _ _ h => h) (Or.inl ⟨by rfl, ?hy42⟩) (by assumption) ?rest42
              case hy42 => (intro w hSw; obtain ⟨p0,p1⟩ := hSw; first | (go_simp; done) | (go_simp; simp [*]; done) | (simp [*]; go_simp; done))
              try simp only [Act.put, List.setIfInBounds_toArray, List.set_cons_zero, List.set_cons_succ]
              refine wpAnyH_take (i := 5) (oi := { dst := some 48, op := _, type := _, pos := _, after := _, guard := _ }) (v := (.pointer (some ⟨MB, 1, none⟩))) rfl (by kernel_rfl) (by kernel_rfl) (by kernel_rfl) (fun _ _ _ h => h) (Or.inl ⟨by rfl, ?hy43⟩) (by assumption) ?rest43
              case hy43 => (intro w hSw; obtain ⟨p0,p1⟩ := hSw; first | (go_simp; done) | (go_simp; simp [*]; done) | (simp [*]; go_simp; done))
              try simp only [Act.put, List.setIfInBounds_toArray, List.set_cons_zero, List.set_cons_succ]
              refine wpAnyH_take (i := 6) (oi := { dst := some 49, op := _, type := _, pos := _, after := _, guard := _ }) (v := (.pointer (some ⟨b1, 0, none⟩))) rfl (by kernel_rfl) (by kernel_rfl) (by kernel_rfl) (fun _ _ _ h => h) (Or.inl ⟨by rfl, ?hy44⟩) (by assumption) ?rest44
              case hy44 => (intro w hSw; obtain ⟨p0,p1⟩ := hSw; first | (go_simp; done) | (go_simp; simp [*]; done) | (simp [*]; go_simp; done))
              try simp only [Act.put, List.setIfInBounds_toArray, List.set_cons_zero, List.set_cons_succ]
              refine wpAnyH_ready (rs := [7]) (by kernel_rfl) (by simp) ?_
              refine AllReadyH.cons (o := { dst := some 50, op := _, type := _, pos := _, after := _, guard := _ }) rfl (fun K hK => ?_) AllReadyH.nil
              go_simp
              refine MD.out.mono ?_
              rintro _ w4 ⟨b2, rfl, hh4, _⟩
              have sx4 := SX.out w4 (hh4.side (X, _) (by first | exact .head _ | exact .tail _ (.head _) | exact .tail _ (.tail _ (.head _))))
              have sm4 := two_cl (show w4.heap[MB]? = some (arm b0 b1) from hh4.side (MB, _) (by first | exact .head _ | exact .tail _ (.head _) | exact .tail _ (.tail _ (.head _))))
              have S4 : Kept (w4.cell? ⟨X, 0, none⟩ = some (.int .i64 1) ∧ w4.cell? ⟨MB, 1, none⟩ = some (.pointer (some ⟨b1, 0, none⟩))) := ⟨sx4.1, sm4.2.1⟩
              obtain ⟨W5, hW5⟩ : ∃ x, w4.setCell ⟨MB, 0, none⟩ (.pointer (some ⟨b2, 0, none⟩)) = x := ⟨_, rfl⟩
              have hh5 : Duo W [(MB, arm b2 b1), (X, sto), (PA, arr R2 R1)] W5 (R1, b1) (R2, b2) := Duo.put (i := 0) (hh4.less (Sd' := [(MB, arm b0 b1), (X, sto), (PA, arr R2 R1)]) (fun p hp => by simp at hp ⊢; rcases hp with hp | hp | hp <;> simp [hp])) HPM.out.2.1 (fun p hp => by
                rcases List.mem_cons.1 hp with rfl | hp
                · exact HXN.out.2.1
                · obtain rfl : p = _ := by simpa using hp
                  exact HPM.out.2.2) hW5
              have sx5 := SX.out W5 (hh5.side (X, _) (by first | exact .head _ | exact .tail _ (.head _) | exact .tail _ (.tail _ (.head _))))
              have sm5 := two_cl (show W5.heap[MB]? = some (arm b2 b1) from hh5.side (MB, _) (by first | exact .head _ | exact .tail _ (.head _) | exact .tail _ (.tail _ (.head _))))
              have S5 : Kept (W5.cell? ⟨X, 0, none⟩ = some (.int .i64 1) ∧ W5.cell? ⟨MB, 1, none⟩ = some (.pointer (some ⟨b1, 0, none⟩))) := ⟨sx5.1, sm5.2.1⟩
              have k4 := sm4.1
              have z4 := sm4.2.2
              have H5 := keep ((hh5.less (Sd' := [(PA, arr R2 R1), (MB, arm b2 b1)]) (fun p hp => by simp at hp ⊢; rcases hp with hp | hp <;> simp [hp])).swap)
              clear hh4 hh5 sx4 sm4 sx5 sm5
              refine hK.out _ _ S4.out (fun hHeld => ?_)
              try simp only [Act.put, List.setIfInBounds_toArray, List.set_cons_zero, List.set_cons_succ]
              clear hK
              refine wpAnyH_take (i := 8) (oi := { dst := some 51, op := _, type := _, pos := _, after := _, guard := _ }) (v := (.pointer (some ⟨MB, 0, none⟩))) rfl (by kernel_rfl) (by kernel_rfl) (by kernel_rfl) (fun _ _ _ h => h) (Or.inl ⟨by rfl, ?hy45⟩) (by assumption) ?rest45
              case hy45 => (intro w hSw; obtain ⟨p0,p1⟩ := hSw; first | (go_simp; done) | (go_simp; simp [*]; done) | (simp [*]; go_simp; done))
              try simp only [Act.put, List.setIfInBounds_toArray, List.set_cons_zero, List.set_cons_succ]
              refine wpAnyH_ready (rs := [9]) (by kernel_rfl) (by simp) ?_
              refine AllReadyH.cons (o := { dst := none, op := _, type := _, pos := _, after := _, guard := _ }) rfl (fun K hK => ?_) AllReadyH.nil
              go_simp
              try rw [hW5]
              refine hK.out _ _ S5.out (fun hHeld => ?_)
              try simp only [Act.put, List.setIfInBounds_toArray, List.set_cons_zero, List.set_cons_succ]
              clear hK
              refine wpAnyH_done (by kernel_rfl) ?_ _
              clear hHeld
              clear k4 z4 MD S4 S5 S3m
              go_wp2
              go_roundg (nS - (k + 1))
              case measure => omega
              case rel => exact ⟨k + 1, by simp, by omega, Nat.le_refl _, R2, b2, R1, b1, H5.out⟩
            · have h7b : (act == 7) = false := beq_eq_false_iff_ne.2 h7
              have PX := keep ((P1.out.swap).below (Below.refl _ W1).drew)
              have MP := keep (duo_plays PX.out 1 act sa sb key x y ox oy KEY.out)
              unfold stV at MP
              have CS : Kept (∀ wz, Duo W [(X, sto), (PA, arr R0 R1), (MB, arm b0 b1)] wz (R1, b1) (R0, b0) → (wz.cell? ⟨X, 0, none⟩ = some (.int .i64 1) ∧ wz.cell? ⟨X, 1, none⟩ = some (.int .i64 act) ∧ wz.cell? ⟨X, 2, none⟩ = some (.int .i64 sa) ∧ wz.cell? ⟨X, 3, none⟩ = some (.int .i64 sb) ∧ wz.cell? ⟨X, 4, none⟩ = some (.string key) ∧ wz.cell? ⟨X, 5, none⟩ = some (.int .u64 (x : Int)) ∧ wz.cell? ⟨X, 6, none⟩ = some (.int .u64 (y : Int)) ∧ wz.cell? ⟨X, 7, none⟩ = some (.bool ox) ∧ wz.cell? ⟨X, 8, none⟩ = some (.bool oy)) ∧ wz.cell? ⟨PA, 1, none⟩ = some (.pointer (some ⟨R1, 0, none⟩)) ∧ wz.cell? ⟨MB, 1, none⟩ = some (.pointer (some ⟨b1, 0, none⟩))) := fun wz h => ⟨SX.out wz (h.side (X, _) (by first | exact .head _ | exact .tail _ (.head _) | exact .tail _ (.tail _ (.head _)))), (two_cl (show wz.heap[PA]? = some (arr R0 R1) from h.side (PA, _) (by first | exact .head _ | exact .tail _ (.head _) | exact .tail _ (.tail _ (.head _))))).2.1, (two_cl (show wz.heap[MB]? = some (arm b0 b1) from h.side (MB, _) (by first | exact .head _ | exact .tail _ (.head _) | exact .tail _ (.tail _ (.head _))))).2.1⟩
              have S1 := keep (CS.out _ PX.out)
              clear x2 x3 x4 x5 x6 x7 x8 PX
              go_wp2_with fail
              refine wp_region_held_drew (S := fun W => (W.cell? ⟨X, 0, none⟩ = some (.int .i64 1) ∧ W.cell? ⟨X, 1, none⟩ = some (.int .i64 act) ∧ W.cell? ⟨X, 2, none⟩ = some (.int .i64 sa) ∧ W.cell? ⟨X, 3, none⟩ = some (.int .i64 sb) ∧ W.cell? ⟨X, 4, none⟩ = some (.string key) ∧ W.cell? ⟨X, 5, none⟩ = some (.int .u64 (x : Int)) ∧ W.cell? ⟨X, 6, none⟩ = some (.int .u64 (y : Int)) ∧ W.cell? ⟨X, 7, none⟩ = some (.bool ox) ∧ W.cell? ⟨X, 8, none⟩ = some (.bool oy)) ∧ W.cell? ⟨PA, 1, none⟩ = some (.pointer (some ⟨R1, 0, none⟩)) ∧ W.cell? ⟨MB, 1, none⟩ = some (.pointer (some ⟨b1, 0, none⟩))) (by kernel_rfl) S1.out (fun hHeld => ?_)
              refine wpAnyH_take (i := 0) (oi := { dst := some 52, op := _, type := _, pos := _, after := _, guard := _ }) (v := ?v46) rfl (by kernel_rfl) (by kernel_rfl) (by kernel_rfl) (fun _ _ _ h => h) (Or.inl ⟨by rfl, ?hy46⟩) (by assumption) ?rest46
              case hy46 => (intro w hSw; obtain ⟨⟨p0,p1,p2,p3,p4,p5,p6,p7,p8⟩,p9,p10⟩ := hSw; go_simp; try with_reducible rfl)
              try simp only [Act.put, List.setIfInBounds_toArray, List.set_cons_zero, List.set_cons_succ]
              refine wpAnyH_take (i := 1) (oi := { dst := some 53, op := _, type := _, pos := _, after := _, guard := _ }) (v := (.int .i64 1)) rfl (by kernel_rfl) (by kernel_rfl) (by kernel_rfl) (fun _ _ _ h => h) (Or.inl ⟨by rfl, ?hy47⟩) (by assumption) ?rest47
              case hy47 => (intro w hSw; obtain ⟨⟨p0,p1,p2,p3,p4,p5,p6,p7,p8⟩,p9,p10⟩ := hSw; first | (go_simp; done) | (go_simp; simp [*]; done) | (simp [*]; go_simp; done))
              try simp only [Act.put, List.setIfInBounds_toArray, List.set_cons_zero, List.set_cons_succ]
              refine wpAnyH_take (i := 2) (oi := { dst := some 54, op := _, type := _, pos := _, after := _, guard := _ }) (v := (.pointer (some ⟨PA, 1, none⟩))) rfl (by kernel_rfl) (by kernel_rfl) (by kernel_rfl) (fun _ _ _ h => h) (Or.inl ⟨by rfl, ?hy48⟩) (by assumption) ?rest48
              case hy48 => (intro w hSw; obtain ⟨⟨p0,p1,p2,p3,p4,p5,p6,p7,p8⟩,p9,p10⟩ := hSw; first | (go_simp; done) | (go_simp; simp [*]; done) | (simp [*]; go_simp; done))
              try simp only [Act.put, List.setIfInBounds_toArray, List.set_cons_zero, List.set_cons_succ]
              refine wpAnyH_take (i := 3) (oi := { dst := some 55, op := _, type := _, pos := _, after := _, guard := _ }) (v := (.pointer (some ⟨R1, 0, none⟩))) rfl (by kernel_rfl) (by kernel_rfl) (by kernel_rfl) (fun _ _ _ h => h) (Or.inl ⟨by rfl, ?hy49⟩) (by assumption) ?rest49
              case hy49 => (intro w hSw; obtain ⟨⟨p0,p1,p2,p3,p4,p5,p6,p7,p8⟩,p9,p10⟩ := hSw; first | (go_simp; done) | (go_simp; simp [*]; done) | (simp [*]; go_simp; done))
              try simp only [Act.put, List.setIfInBounds_toArray, List.set_cons_zero, List.set_cons_succ]
              refine wpAnyH_take (i := 4) (oi := { dst := some 56, op := _, type := _, pos := _, after := _, guard := _ }) (v := (.bool false)) rfl (by kernel_rfl) (by kernel_rfl) (by kernel_rfl) (fun _ _ _ h => h) (Or.inl ⟨by rfl, ?hy50⟩) (by assumption) ?rest50
              case hy50 => (intro w hSw; obtain ⟨⟨p0,p1,p2,p3,p4,p5,p6,p7,p8⟩,p9,p10⟩ := hSw; first | (go_simp; done) | (go_simp; simp [*]; done) | (simp [*]; go_simp; done))
              try simp only [Act.put, List.setIfInBounds_toArray, List.set_cons_zero, List.set_cons_succ]
              refine wpAnyH_take (i := 5) (oi := { dst := some 57, op := _, type := _, pos := _, after := _, guard := _ }) (v := (.bool false)) rfl (by kernel_rfl) (by kernel_rfl) (by kernel_rfl) (fun _ _ _ h => h) (Or.inl ⟨by rfl, ?hy51⟩) (by assumption) ?rest51
              case hy51 => (intro w hSw; obtain ⟨⟨p0,p1,p2,p3,p4,p5,p6,p7,p8⟩,p9,p10⟩ := hSw; first | (go_simp; done) | (go_simp; simp [*]; done) | (simp [*]; go_simp; done))
              try simp only [Act.put, List.setIfInBounds_toArray, List.set_cons_zero, List.set_cons_succ]
              refine wpAnyH_take (i := 6) (oi := { dst := some 58, op := _, type := _, pos := _, after := _, guard := _ }) (v := ?v52) rfl (by kernel_rfl) (by kernel_rfl) (by kernel_rfl) (fun _ _ _ h => h) (Or.inl ⟨by rfl, ?hy52⟩) (by assumption) ?rest52
              case hy52 => (intro w hSw; obtain ⟨⟨p0,p1,p2,p3,p4,p5,p6,p7,p8⟩,p9,p10⟩ := hSw; go_simp; try with_reducible rfl)
              try simp only [Act.put, List.setIfInBounds_toArray, List.set_cons_zero, List.set_cons_succ]
              refine wpAnyH_take (i := 7) (oi := { dst := some 59, op := _, type := _, pos := _, after := _, guard := _ }) (v := (.int .i64 1)) rfl (by kernel_rfl) (by kernel_rfl) (by kernel_rfl) (fun _ _ _ h => h) (Or.inl ⟨by rfl, ?hy53⟩) (by assumption) ?rest53
              case hy53 => (intro w hSw; obtain ⟨⟨p0,p1,p2,p3,p4,p5,p6,p7,p8⟩,p9,p10⟩ := hSw; first | (go_simp; done) | (go_simp; simp [*]; done) | (simp [*]; go_simp; done))
              try simp only [Act.put, List.setIfInBounds_toArray, List.set_cons_zero, List.set_cons_succ]
              refine wpAnyH_take (i := 8) (oi := { dst := some 60, op := _, type := _, pos := _, after := _, guard := _ }) (v := (.pointer (some ⟨PA, 1, none⟩))) rfl (by kernel_rfl) (by kernel_rfl) (by kernel_rfl) (fun _ _ _ h => h) (Or.inl ⟨by rfl, ?hy54⟩) (by assumption) ?rest54
              case hy54 => (intro w hSw; obtain ⟨⟨p0,p1,p2,p3,p4,p5,p6,p7,p8⟩,p9,p10⟩ := hSw; first | (go_simp; done) | (go_simp; simp [*]; done) | (simp [*]; go_simp; done))
              try simp only [Act.put, List.setIfInBounds_toArray, List.set_cons_zero, List.set_cons_succ]
              refine wpAnyH_take (i := 9) (oi := { dst := some 61, op := _, type := _, pos := _, after := _, guard := _ }) (v := (.pointer (some ⟨R1, 0, none⟩))) rfl (by kernel_rfl) (by kernel_rfl) (by kernel_rfl) (fun _ _ _ h => h) (Or.inl ⟨by rfl, ?hy55⟩) (by assumption) ?rest55
              case hy55 => (intro w hSw; obtain ⟨⟨p0,p1,p2,p3,p4,p5,p6,p7,p8⟩,p9,p10⟩ := hSw; first | (go_simp; done) | (go_simp; simp [*]; done) | (simp [*]; go_simp; done))
              try simp only [Act.put, List.setIfInBounds_toArray, List.set_cons_zero, List.set_cons_succ]
              refine wpAnyH_take (i := 10) (oi := { dst := some 62, op := _, type := _, pos := _, after := _, guard := _ }) (v := ?v56) rfl (by kernel_rfl) (by kernel_rfl) (by kernel_rfl) (fun _ _ _ h => h) (Or.inl ⟨by rfl, ?hy56⟩) (by assumption) ?rest56
              case hy56 => (intro w hSw; obtain ⟨⟨p0,p1,p2,p3,p4,p5,p6,p7,p8⟩,p9,p10⟩ := hSw; go_simp; try with_reducible rfl)
              try simp only [Act.put, List.setIfInBounds_toArray, List.set_cons_zero, List.set_cons_succ]
              refine wpAnyH_take (i := 11) (oi := { dst := some 63, op := _, type := _, pos := _, after := _, guard := _ }) (v := (.int .i64 1)) rfl (by kernel_rfl) (by kernel_rfl) (by kernel_rfl) (fun _ _ _ h => h) (Or.inl ⟨by rfl, ?hy57⟩) (by assumption) ?rest57
              case hy57 => (intro w hSw; obtain ⟨⟨p0,p1,p2,p3,p4,p5,p6,p7,p8⟩,p9,p10⟩ := hSw; first | (go_simp; done) | (go_simp; simp [*]; done) | (simp [*]; go_simp; done))
              try simp only [Act.put, List.setIfInBounds_toArray, List.set_cons_zero, List.set_cons_succ]
              refine wpAnyH_take (i := 12) (oi := { dst := some 64, op := _, type := _, pos := _, after := _, guard := _ }) (v := (.pointer (some ⟨MB, 1, none⟩))) rfl (by kernel_rfl) (by kernel_rfl) (by kernel_rfl) (fun _ _ _ h => h) (Or.inl ⟨by rfl, ?hy58⟩) (by assumption) ?rest58
              case hy58 => (intro w hSw; obtain ⟨⟨p0,p1,p2,p3,p4,p5,p6,p7,p8⟩,p9,p10⟩ := hSw; first | (go_simp; done) | (go_simp; simp [*]; done) | (simp [*]; go_simp; done))
              try simp only [Act.put, List.setIfInBounds_toArray, List.set_cons_zero, List.set_cons_succ]
              refine wpAnyH_take (i := 13) (oi := { dst := some 65, op := _, type := _, pos := _, after := _, guard := _ }) (v := (.pointer (some ⟨b1, 0, none⟩))) rfl (by kernel_rfl) (by kernel_rfl) (by kernel_rfl) (fun _ _ _ h => h) (Or.inl ⟨by rfl, ?hy59⟩) (by assumption) ?rest59
              case hy59 => (intro w hSw; obtain ⟨⟨p0,p1,p2,p3,p4,p5,p6,p7,p8⟩,p9,p10⟩ := hSw; first | (go_simp; done) | (go_simp; simp [*]; done) | (simp [*]; go_simp; done))
              try simp only [Act.put, List.setIfInBounds_toArray, List.set_cons_zero, List.set_cons_succ]
              refine wpAnyH_take (i := 14) (oi := { dst := some 66, op := _, type := _, pos := _, after := _, guard := _ }) (v := (.agg #[.int .i64 1, .int .i64 act, .int .i64 sa, .int .i64 sb, .string key, .int .u64 (x : Int), .int .u64 (y : Int), .bool ox, .bool oy])) rfl (by kernel_rfl) (by kernel_rfl) (by kernel_rfl) (fun _ _ _ h => h) (Or.inl ⟨by rfl, ?hy60⟩) (by assumption) ?rest60
              case hy60 => (intro w hSw; obtain ⟨⟨p0,p1,p2,p3,p4,p5,p6,p7,p8⟩,p9,p10⟩ := hSw; first | (go_simp; done) | (go_simp; simp [*]; done) | (simp [*]; go_simp; done))
              try simp only [Act.put, List.setIfInBounds_toArray, List.set_cons_zero, List.set_cons_succ]
              refine wpAnyH_ready (rs := [15]) (by kernel_rfl) (by simp) ?_
              refine AllReadyH.cons (o := { dst := some 67, op := _, type := _, pos := _, after := _, guard := _ }) rfl (fun K hK => ?_) AllReadyH.nil
              go_simp
              refine MP.out.mono ?_
              rintro _ w3 ⟨rfl, d3⟩
              have S3 := keep (CS.out w3 d3)
              have P2 : Kept (Duo W [(PA, arr R0 R1), (MB, arm b0 b1)] w3 (R0, b0) (R1, b1)) := (d3.swap).less (fun p hp => by simp at hp ⊢; rcases hp with hp | hp <;> simp [hp])
              refine hK.out _ _ S3.out (fun hHeld => ?_)
              try simp only [Act.put, List.setIfInBounds_toArray, List.set_cons_zero, List.set_cons_succ]
              clear hK MP d3 CS S1 P1
              refine wpAnyH_take (i := 16) (oi := { dst := some 68, op := _, type := _, pos := _, after := _, guard := _ }) (v := (.bool false)) rfl (by kernel_rfl) (by kernel_rfl) (by kernel_rfl) (fun _ _ _ h => h) (Or.inl ⟨by rfl, ?hy61⟩) (by assumption) ?rest61
              case hy61 => (intro w hSw; first | (go_simp; done) | (go_simp; simp [*]; done) | (simp [*]; go_simp; done))
              try simp only [Act.put, List.setIfInBounds_toArray, List.set_cons_zero, List.set_cons_succ]
              refine wpAnyH_take (i := 17) (oi := { dst := some 69, op := _, type := _, pos := _, after := _, guard := _ }) (v := (.bool false)) rfl (by kernel_rfl) (by kernel_rfl) (by kernel_rfl) (fun _ _ _ h => h) (Or.inl ⟨by rfl, ?hy62⟩) (by assumption) ?rest62
              case hy62 => (intro w hSw; first | (go_simp; done) | (go_simp; simp [*]; done) | (simp [*]; go_simp; done))
              try simp only [Act.put, List.setIfInBounds_toArray, List.set_cons_zero, List.set_cons_succ]
              refine wpAnyH_done (by kernel_rfl) ?_ _
              clear hHeld S3
              go_wp2
              go_roundg (nS - (k + 1))
              case measure => omega
              case rel => exact ⟨k + 1, by simp, by omega, Nat.le_refl _, R0, b0, R1, b1, P2.out⟩
    · obtain rfl : k = nS := by omega
      have MR0 := keep (duo_row KD.out 0 1048576)
      have sp := two_cl (show wr.heap[PA]? = some (arr R0 R1) from KD.out.side (PA, _) (by first | exact .head _ | exact .tail _ (.head _) | exact .tail _ (.tail _ (.head _))))
      have sm := two_cl (show wr.heap[MB]? = some (arm b0 b1) from KD.out.side (MB, _) (by first | exact .head _ | exact .tail _ (.head _) | exact .tail _ (.tail _ (.head _))))
      obtain ⟨p0, p1, _⟩ := sp
      obtain ⟨m0, m1, _⟩ := sm
      go_wp2_with fail
      refine MR0.out.mono ?_
      rintro _ w2 ⟨rfl, d2⟩
      have MR1 := keep (duo_row d2.swap 0 1048576)
      have sp := two_cl (show w2.heap[PA]? = some (arr R0 R1) from d2.side (PA, _) (by first | exact .head _ | exact .tail _ (.head _) | exact .tail _ (.tail _ (.head _))))
      have sm := two_cl (show w2.heap[MB]? = some (arm b0 b1) from d2.side (MB, _) (by first | exact .head _ | exact .tail _ (.head _) | exact .tail _ (.tail _ (.head _))))
      obtain ⟨p0', p1', _⟩ := sp
      obtain ⟨m0', m1', _⟩ := sm
      clear MR0 d2 p0 p1 m0 m1
      go_wp2_with fail
      refine MR1.out.mono ?_
      rintro _ w3 ⟨rfl, d3⟩
      have HB := keep d3.bel
      clear MR1 d3 p0' p1' m0' m1'
      go_wp2
      go_ret
      exact ⟨by simp, HB.out⟩
end Go.Proofs.Ytapehjlpiobeaaa
