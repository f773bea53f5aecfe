/-
  Round and Enforce over a space of one key that is too full, and the statement's own wakes.
-/
import Derived.Test.YthmmblohfjmbcaaGreatEv2
import Derived.Laws.Concat
namespace Go.Proofs.YthmmblohfjmbcaaGreat
open Go.RowKit Go.Shelf
set_option linter.unusedVariables false
set_option linter.unusedSimpArgs false
set_option maxRecDepth 100000
namespace Ks
section
variable {W w w' : World} {R R' : Ro} {b N N' p m g r : Nat} {s s' : Sx} {v v' : Value} {l l' : List DV.Ent} {X Y : List (Nat × Obj)} {k : ByteArray} {x : En}
set_option maxHeartbeats 4000000 in
theorem round_one {ao : Option Addr} {cp n : Nat} (h : Ev W w R b s N p v m [] X) (ho : One s k x) (hk : k.size ≤ maxLen) (hN : N ≤ 2600000000000) (hm1 : 1 ≤ m) (hm : m ≤ 16) (hr : (r, srO ao cp) ∈ X) (hc : cp ≤ maxLen) (hn : s.smp = (n : Int)) (hn1 : 1 ≤ n) (hn16 : n ≤ 16) :
    Calls Tryz.prog 7 #[pb b, pb p, pb r] w fun e w' => e = .returned (.tuple #[]) ∧ ∃ R' v', Ev W w' R' b s N p v' m [cnd k x] X := by
  have MW := keep (wayOf_use h.sp ho.pol)
  have H := keep h
  have MO := keep (fun (w1 : World) (g : Nat) (Y : List (Nat × Obj)) (h1 : Ev W w1 R b s N p v m [] Y) (hg : (g, bxO b) ∈ Y) (hr : (r, srO ao cp) ∈ Y) => offer_one (g := g) h1 ho hk hN hm1 hm hg hr hc hn hn1 hn16)
  have HR := keep hr
  clear h ho hk hN hm1 hm hr hc hn hn1 hn16
  go_enter Tryz.func7, Tryz.ntmps7
  go_wp2_with fail
  refine MW.out.mono ?_
  rintro _ w1 ⟨g, rfl, hg, hx, hb⟩
  have h1 := H.out.one hb hg hx
  obtain ⟨B, hB⟩ : ∃ B, w1.heap.size = B := ⟨_, rfl⟩
  obtain ⟨W2, hW2⟩ : ∃ W2, w1.alloc (.cells #[.bool true, rkV g] 56) = W2 := ⟨_, rfl⟩
  have g2 : W2.heap[B]? = some (.cells #[.bool true, rkV g] 56 (0, 0)) := by rw [← hW2, ← hB]; exact heap_alloc_new _ _
  have hb2 : Below w1.heap.size w1 W2 := by rw [← hW2]; exact (Below.refl _ _).alloc (Nat.le_refl _) _
  have h2 := h1.one hb2 (Nat.le_of_eq hB) g2
  have c0 : W2.cell? ⟨B, 0, none⟩ = some (.bool true) := by simp [World.cell?, g2]
  have c1 : W2.cell? ⟨B, 1, none⟩ = some (.func (.func 41) #[] #[.pointer (some ⟨g, 0, none⟩)]) := by simp [World.cell?, g2, rkV]
  have H2 := keep h2
  have MN := keep (renew_none h2 (rkV g))
  unfold rkV at hW2 MN ⊢
  have sf := st_rk g
  clear hx hb g2 hb2 MW hg h1 h2 H
  go_wp2_with fail
  refine MN.out.mono ?_
  rintro _ w3 ⟨rfl, hb3⟩
  have h3 := H2.out.below hb3
  have g3 := (h3.side _ (List.mem_cons_self ..)).1
  have d0 : w3.cell? ⟨B, 0, none⟩ = some (.bool true) := by simp [World.cell?, g3]
  have d1 : w3.cell? ⟨B, 1, none⟩ = some (.func (.func 41) #[] #[.pointer (some ⟨g, 0, none⟩)]) := by simp [World.cell?, g3, rkV]
  have M3 := keep (MO.out w3 g _ h3 (List.mem_cons_of_mem _ (List.mem_cons_self ..)) (List.mem_cons_of_mem _ (List.mem_cons_of_mem _ HR.out)))
  clear hb3 h3 g3 MN MO c0 c1 H2
  go_wp2_with fail
  refine M3.out.mono ?_
  rintro _ w4 ⟨rfl, R4, v4, h4⟩
  have H4 : Kept (∃ R' v', Ev W w4 R' b s N p v' m [cnd k x] X) := ⟨R4, v4, h4.sub (fun q hq => List.mem_cons_of_mem _ (List.mem_cons_of_mem _ hq))⟩
  clear M3 h4 d0 d1
  go_wp2
  first | exact ⟨rfl, H4.out⟩ | (go_end0; exact ⟨rfl, H4.out⟩) | (go_ret; exact ⟨rfl, H4.out⟩)
/-- what is left when the key has gone -/
def gonS (s : Sx) (k : ByteArray) (x : En) : Sx := { dropS s k x with st := s.st ++ [(2, k)] }
set_option maxHeartbeats 4000000 in
theorem enforce_one {ao : Option Addr} {cp n : Nat} (h : Ev W w R b s N p v m [] X) (ho : One s k x) (hk : k.size ≤ maxLen) (hN : N + 1 ≤ 2600000000000) (hm1 : 1 ≤ m) (hm : m ≤ 16) (hr : (r, srO ao cp) ∈ X) (hc : cp ≤ maxLen) (hn : s.smp = (n : Int)) (hn1 : 1 ≤ n) (hn16 : n ≤ 16)
    (h0 : 0 < s.most) (hu : s.most < s.used) (hu' : ¬ s.most < (gonS s k x).used) (htn : s.tn < maxLen) (hst : s.st.length ≤ 5000000000000) :
    Calls Tryz.prog 8 #[pb b, pb p, pb r] w fun e w' => e = .returned (.tuple #[.int .i64 1, .int .i64 0]) ∧ ∃ R' v', Ev W w' R' b (gonS s k x) N p v' m [] X := by
  have t0 : (decide (0 < s.most) && decide (s.most < s.used)) = true := by simp [h0, hu]
  have t1 : (decide (0 < (gonS s k x).most) && decide ((gonS s k x).most < (gonS s k x).used)) = false := by
    have : (gonS s k x).most = s.most := rfl
    rw [this]
    simp [hu']
  have MT := keep (fun (w1 : World) (R1 : Ro) (h1 : Sp N w1 R1 b s) => tooFull_any h1)
  rw [t0] at MT
  have MU := keep (fun (w1 : World) (R1 : Ro) (h1 : Sp N w1 R1 b (gonS s k x)) => tooFull_any h1)
  rw [t1] at MU
  have MW := keep (fun (w1 : World) (R1 : Ro) (h1 : Sp N w1 R1 b s) => sweep_none h1 (by omega) ho.fr)
  have MG := keep (fun (w1 : World) (R1 : Ro) (v1 : Value) (h1 : Ev W w1 R1 b s N p v1 m [] X) => anyMayGo_one h1 ho (by omega))
  have MR := keep (fun (w1 : World) (R1 : Ro) (v1 : Value) (h1 : Ev W w1 R1 b s N p v1 m [] X) => round_one h1 ho hk (by omega) hm1 hm hr hc hn hn1 hn16)
  have ME := keep (fun (w1 : World) (R1 : Ro) (h1 : Sp N w1 R1 b s) => evict_here h1 k hk x ho.lm ho.E ho.np hN htn hst)
  have MK := keep (fun (w1 : World) (v1 : Value) (h1 : DV.Pl w1 p v1 m [cnd k x]) => DV.take_any w1 p m v1 [cnd k x] h1 (by simp))
  have H := keep h
  have M0 := keep (MT.out _ _ h.sp)
  clear h ho hk hN hm1 hm hr hc hn hn1 hn16 h0 hu hu' htn hst t0 t1
  go_enter Tryz.func8, Tryz.ntmps8
  go_wp2_with fail
  refine M0.out.mono ?_
  rintro _ w1 ⟨rfl, hb1⟩
  have h1 := H.out.below hb1
  have M1 := keep (MW.out _ _ h1.sp)
  have H1 := keep h1
  clear M0 hb1 h1 H MW
  go_wp2_with fail
  refine M1.out.mono ?_
  rintro _ w2 ⟨rfl, hb2⟩
  have L0 : Kept (∃ R' v', Ev W w2 R' b s N p v' m [] X) := ⟨R, v, H1.out.below hb2⟩
  clear M1 hb2 H1
  go_wp2
  go_loopg [8] 1 (fun kx s8 wr => (kx = 1 ∧ s8 = .int .i64 0 ∧ Kept (∃ R' v', Ev W wr R' b s N p v' m [] X)) ∨ (s8 = .int .i64 1 ∧ Kept (∃ R' v', Ev W wr R' b (gonS s k x) N p v' m [] X)))
  case atStart => exact .inl ⟨rfl, rfl, L0⟩
  case round =>
    clear L0
    rcases hrel with ⟨rfl, rfl, KL⟩ | ⟨rfl, KL⟩
    · obtain ⟨R3, v3, h3⟩ := KL.out
      have M3 := keep (MT.out _ _ h3.sp)
      have H3 := keep h3
      clear KL h3
      go_wp2_with fail
      refine M3.out.mono ?_
      rintro _ w4 ⟨rfl, hb4⟩
      have H4 := keep (H3.out.below hb4)
      have M4 := keep (MG.out _ _ _ H4.out)
      clear M3 hb4 H3
      go_wp2_with fail
      refine M4.out.mono ?_
      rintro _ w5 ⟨rfl, hb5⟩
      have H5 := keep (H4.out.below hb5)
      have M5 := keep (MR.out _ _ _ H5.out)
      clear M4 hb5 H4
      go_wp2_with fail
      refine M5.out.mono ?_
      rintro _ w6 ⟨rfl, R6, v6, h6⟩
      have H6 := keep h6
      have M6 := keep (MK.out _ _ h6.pl)
      unfold DV.fstV at M6
      dsimp only [cnd] at M6
      clear M5 h6 H5
      go_wp2_with fail
      refine M6.out.mono ?_
      rintro _ w7 ⟨rfl, v7, p7, f7⟩
      have h7 := H6.out.pool p7 f7
      obtain ⟨B, hB⟩ : ∃ B, w7.heap.size = B := ⟨_, rfl⟩
      obtain ⟨W8, hW8⟩ : ∃ W8, w7.alloc (.cells #[.string k, .int .u64 (x.stamp : Int)] 65) = W8 := ⟨_, rfl⟩
      have g8 : W8.heap[B]? = some (.cells #[.string k, .int .u64 (x.stamp : Int)] 65 (0, 0)) := by rw [← hW8, ← hB]; exact heap_alloc_new _ _
      have hb8 : Below w7.heap.size w7 W8 := by rw [← hW8]; exact (Below.refl _ _).alloc (Nat.le_refl _) _
      have c0 : W8.cell? ⟨B, 0, none⟩ = some (.string k) := by simp [World.cell?, g8]
      have H8 := keep (h7.below hb8)
      have M8 := keep (ME.out _ _ H8.out.sp)
      clear M6 p7 f7 h7 g8 hb8 H6
      go_wp2_with fail
      refine M8.out.mono ?_
      rintro _ w9 ⟨rfl, R9, s9, f9⟩
      have L9 : Kept (∃ R' v', Ev W w9 R' b (gonS s k x) N p v' m [] X) := ⟨R9, v7, H8.out.space s9 f9⟩
      clear M8 s9 f9 H8 c0
      go_wp2
      go_roundg 0
      case measure => omega
      case rel => exact .inr ⟨by simp, L9⟩
    · obtain ⟨R3, v3, h3⟩ := KL.out
      have M3 := keep (MU.out _ _ h3.sp)
      have H3 := keep h3
      clear KL h3
      go_wp2_with fail
      refine M3.out.mono ?_
      rintro _ w4 ⟨rfl, hb4⟩
      have H4 : Kept (∃ R' v', Ev W w4 R' b (gonS s k x) N p v' m [] X) := ⟨R3, v3, H3.out.below hb4⟩
      clear M3 hb4 H3
      go_wp2
      refine bodyPost_ret (results_tmp2 rfl _ _ _) rfl ?_
      exact ⟨rfl, H4.out⟩
end
end Ks
end Go.Proofs.YthmmblohfjmbcaaGreat
