/-
  Contracts over this program: in which table, in which bucket of it and at which place a key stands.
-/
import Derived.Test.YthmmblohfjmbcaaGreatPDictIter
import Derived.Deep.QuietTactic
import Derived.BigQuiet
import Derived.WalkSmall
namespace Go.Proofs.YthmmblohfjmbcaaGreat.DP
open Go.RowKit Go.Shelf
/-- what find hands back -/
def Sought (w : World) (r : Roles) (b : Nat) (s : Dc.St ByteArray (Option Addr)) (h : ByteArray → Nat) (key : ByteArray) (e : Ending) : Prop :=
  (e = .returned (.tuple #[.slice none 0 0, .int .i64 0, .int .i64 (-1)]) ∧ (∀ x ∈ Dc.chain h s.old key, x.1 ≠ key) ∧ ∀ x ∈ Dc.chain h s.young key, x.1 ≠ key) ∨
  ∃ (t g cap p : Nat) (T : Dc.Tab ByteArray (Option Addr)) (x : Option Addr), ((t = 0 ∧ T = s.old) ∨ (t = 1 ∧ T = s.young)) ∧ 0 < T.length ∧ Tb w r t (.slice (some ⟨g, 0, none⟩) T.length cap) T ∧ w.cell? ⟨b, 2 + t, none⟩ = some (.slice (some ⟨g, 0, none⟩) T.length cap) ∧ (Dc.chain h T key).reverse[p]? = some (key, x) ∧
    e = .returned (.tuple #[.slice (some ⟨g, 0, none⟩) T.length cap, .int .i64 ((h key % T.length : Nat) : Int), .int .i64 p])
theorem sought_at {w : World} {r : Roles} {b : Nat} {s : Dc.St ByteArray (Option Addr)} {h : ByteArray → Nat} {key : ByteArray} {t g cap p : Nat} {T : Dc.Tab ByteArray (Option Addr)} {x : Option Addr} (h1 : (t = 0 ∧ T = s.old) ∨ (t = 1 ∧ T = s.young)) (h2 : 0 < T.length) (h3 : Tb w r t (.slice (some ⟨g, 0, none⟩) T.length cap) T) (h5 : w.cell? ⟨b, 2 + t, none⟩ = some (.slice (some ⟨g, 0, none⟩) T.length cap)) (h4 : (Dc.chain h T key).reverse[p]? = some (key, x)) :
    Sought w r b s h key (.returned (.tuple #[.slice (some ⟨g, 0, none⟩) T.length cap, .int .i64 ((h key % T.length : Nat) : Int), .int .i64 p])) := .inr ⟨t, g, cap, p, T, x, h1, h2, h3, h5, h4, rfl⟩
theorem chain_none {h : ByteArray → Nat} {T : Dc.Tab ByteArray (Option Addr)} {key : ByteArray} (hT : T.length = 0) : ∀ x ∈ Dc.chain h T key, x.1 ≠ key := by
  rw [List.length_eq_zero_iff.1 hT]
  intro x hx
  simp [Dc.chain] at hx
theorem idx0 (a b : Option Addr) (n c m d : Nat) (w : World) : (Instr.index 172 (.agg #[.slice a n c, .slice b m d]) (.int .i64 0)).run Tryz.prog w = .ok (.slice a n c) w := by kernel_rfl
theorem idx1 (a b : Option Addr) (n c m d : Nat) (w : World) : (Instr.index 172 (.agg #[.slice a n c, .slice b m d]) (.int .i64 1)).run Tryz.prog w = .ok (.slice b m d) w := by kernel_rfl
set_option maxRecDepth 100000 in
set_option maxHeartbeats 2000000 in
theorem seek_any {h : ByteArray → Nat} {seed : Nat} (hH : HashIs seed h) (w : World) (r : Roles) (b n : Nat) (s : Dc.St ByteArray (Option Addr)) (key : ByteArray) (hD : Dct w r b seed n s) (hk : key.size ≤ maxLen) (hm0 : s.old.length ≤ maxLen) (hm1 : s.young.length ≤ maxLen) :
    Calls Tryz.prog 81 #[.pointer (some ⟨b, 0, none⟩), .string key] w fun e w' => Sought w r b s h key e ∧ Below w.heap.size w w' := by
  obtain ⟨ao, ca, bo, cb, h4, h5, h3⟩ := hD.cells
  obtain ⟨c0, c1, c2, c3, c4, cf⟩ := five h3
  have H4 := keep h4
  have H5 := keep h5
  have mH := (hH key hk).2 w
  clear h3 h4 h5 c1 c4 cf hD
  go_enter Tryz.func81, Tryz.ntmps81
  go_wp2_with fail
  refine mH.mono ?_
  rintro _ w' ⟨rfl, hw'⟩
  subst hw'
  go_wp2_with fail
  go_quiet (fail)
  go_wp2
  clear mH c0
  go_loopw [27] (fun i wr => ∃ k : Nat, k ≤ 2 ∧ i = .int .i64 k ∧ Kept (Below w'.heap.size w' wr) ∧ Kept (0 < k → ∀ x ∈ Dc.chain h s.old key, x.1 ≠ key) ∧ Kept (1 < k → ∀ x ∈ Dc.chain h s.young key, x.1 ≠ key)) (fun i _ => 2 - (intOf i).toNat)
  case atStart => exact ⟨0, by omega, rfl, below_drewN (Below.refl _ _) _, fun h => absurd h (by omega), fun h => absurd h (by omega)⟩
  case round =>
    obtain ⟨k, hk2, rfl, BW, N0, N1⟩ := hrel
    have hk3 : k = 0 ∨ k = 1 ∨ k = 2 := by omega
    rcases hk3 with rfl | rfl | rfl
    · have ix := idx0 ao bo s.old.length ca s.young.length cb wr
      by_cases hT0 : (s.old).length = 0
      · have e0 : ((s.old.length : Int) == 0) = true := by rw [hT0]; rfl
        have hnone := keep (chain_none (h := h) (key := key) hT0)
        clear hT0
        go_wp2
        go_roundw
        case measure => simp [intOf]
        case rel => exact ⟨1, by omega, rfl, BW, fun _ => hnone.out, fun h => absurd h (by omega)⟩
      · obtain ⟨g, cap, e5, hrg, hgl⟩ := H4.out.form (by omega)
        have e6 : ao = some ⟨g, 0, none⟩ := by injection e5
        clear e5
        subst e6
        have hlen : ((s.old.length : Int) == 0) = false := beq_eq_false_iff_ne.2 (by omega)
        have hlt : h key % s.old.length < s.old.length := Nat.mod_lt _ (by omega)
        obtain ⟨c, hc⟩ : ∃ c, s.old[h key % s.old.length]? = some c := ⟨_, List.getElem?_eq_getElem hlt⟩
        have hch : Dc.chain h s.old key = c := by unfold Dc.chain; rw [hc]; rfl
        obtain ⟨v, hv1, hv2, _⟩ := H4.out.at hc
        have mO := of_any wr (some ⟨g, 0, none⟩) s.old.length ca (h key) (by omega) hm0 (hH key hk).1
        have mF := cfind_any wr v c key (own_kept hv2 (fun k hk => BW.out.block k (own_lt hv2 hk)))
        have hcell : wr.cell? ⟨g, h key % s.old.length, none⟩ = some v := (BW.out.cell (p := ⟨g, h key % s.old.length, none⟩) hgl).trans hv1
        have HF := keep (fun (p : Nat) (x : Option Addr) (hp : c.reverse[p]? = some (key, x)) => sought_at (s := s) (key := key) (h := h) (t := 0) (T := s.old) (g := g) (cap := ca) (w := w') (r := r) (p := p) (x := x) (.inl ⟨rfl, rfl⟩) (by omega) H4.out c2 (by rw [hch]; exact hp))
        have HCH := keep hch
        clear hv1 hv2 hc hch
        generalize hix : h key % s.old.length = i at *
        have HIX := keep hix
        clear hix
        have hi0 : (0 : Int) ≤ (i : Int) := by omega
        have hi1 : (i : Int) < (s.old.length : Int) := by omega
        obtain ⟨wo, hwo⟩ : ∃ x, x = wr := ⟨_, rfl⟩
        subst hwo
        go_wp2_with fail
        refine mO.mono ?_
        rintro _ w' ⟨rfl, hw'⟩
        obtain rfl := hw'.symm
        go_wp2_with fail
        refine mF.mono ?_
        rintro _ w2 ⟨⟨q, rfl, hq⟩, hb2⟩
        have HB2 := keep hb2
        clear hb2 mO mF
        rcases hq with ⟨rfl, hno⟩ | ⟨p, x, rfl, hpl, hp⟩
        · have HNO := keep hno
          clear hno
          go_wp2
          go_roundw
          case measure => simp [intOf]
          case rel => exact ⟨1, by omega, rfl, BW.out.trans (HB2.out.mono BW.out.size), fun _ => by show ∀ x ∈ Dc.chain h s.old key, _; rw [HCH.out]; exact HNO.out, fun h => absurd h (by omega)⟩
        · have HP := keep hp
          clear hp
          have hp0 : (0 : Int) ≤ (p : Int) := by omega
          go_wp2
          refine bodyPost_ret (results_tmp3 rfl _ _ _) rfl ?_
          exact ⟨HF.out p x HP.out, BW.out.trans (HB2.out.mono BW.out.size)⟩
    · have ix := idx1 ao bo s.old.length ca s.young.length cb wr
      by_cases hT0 : (s.young).length = 0
      · have e0 : ((s.young.length : Int) == 0) = true := by rw [hT0]; rfl
        have hnone := keep (chain_none (h := h) (key := key) hT0)
        clear hT0
        go_wp2
        go_roundw
        case measure => simp [intOf]
        case rel => exact ⟨2, by omega, rfl, BW, fun _ => N0.out (by omega), fun _ => hnone.out⟩
      · obtain ⟨g, cap, e5, hrg, hgl⟩ := H5.out.form (by omega)
        have e6 : bo = some ⟨g, 0, none⟩ := by injection e5
        clear e5
        subst e6
        have hlen : ((s.young.length : Int) == 0) = false := beq_eq_false_iff_ne.2 (by omega)
        have hlt : h key % s.young.length < s.young.length := Nat.mod_lt _ (by omega)
        obtain ⟨c, hc⟩ : ∃ c, s.young[h key % s.young.length]? = some c := ⟨_, List.getElem?_eq_getElem hlt⟩
        have hch : Dc.chain h s.young key = c := by unfold Dc.chain; rw [hc]; rfl
        obtain ⟨v, hv1, hv2, _⟩ := H5.out.at hc
        have mO := of_any wr (some ⟨g, 0, none⟩) s.young.length cb (h key) (by omega) hm1 (hH key hk).1
        have mF := cfind_any wr v c key (own_kept hv2 (fun k hk => BW.out.block k (own_lt hv2 hk)))
        have hcell : wr.cell? ⟨g, h key % s.young.length, none⟩ = some v := (BW.out.cell (p := ⟨g, h key % s.young.length, none⟩) hgl).trans hv1
        have HF := keep (fun (p : Nat) (x : Option Addr) (hp : c.reverse[p]? = some (key, x)) => sought_at (s := s) (key := key) (h := h) (t := 1) (T := s.young) (g := g) (cap := cb) (w := w') (r := r) (p := p) (x := x) (.inr ⟨rfl, rfl⟩) (by omega) H5.out c3 (by rw [hch]; exact hp))
        have HCH := keep hch
        clear hv1 hv2 hc hch
        generalize hix : h key % s.young.length = i at *
        have HIX := keep hix
        clear hix
        have hi0 : (0 : Int) ≤ (i : Int) := by omega
        have hi1 : (i : Int) < (s.young.length : Int) := by omega
        obtain ⟨wo, hwo⟩ : ∃ x, x = wr := ⟨_, rfl⟩
        subst hwo
        go_wp2_with fail
        refine mO.mono ?_
        rintro _ w' ⟨rfl, hw'⟩
        obtain rfl := hw'.symm
        go_wp2_with fail
        refine mF.mono ?_
        rintro _ w2 ⟨⟨q, rfl, hq⟩, hb2⟩
        have HB2 := keep hb2
        clear hb2 mO mF
        rcases hq with ⟨rfl, hno⟩ | ⟨p, x, rfl, hpl, hp⟩
        · have HNO := keep hno
          clear hno
          go_wp2
          go_roundw
          case measure => simp [intOf]
          case rel => exact ⟨2, by omega, rfl, BW.out.trans (HB2.out.mono BW.out.size), fun _ => N0.out (by omega), fun _ => by show ∀ x ∈ Dc.chain h s.young key, _; rw [HCH.out]; exact HNO.out⟩
        · have HP := keep hp
          clear hp
          have hp0 : (0 : Int) ≤ (p : Int) := by omega
          go_wp2
          refine bodyPost_ret (results_tmp3 rfl _ _ _) rfl ?_
          exact ⟨HF.out p x HP.out, BW.out.trans (HB2.out.mono BW.out.size)⟩
    · go_wp2
      refine bodyPost_ret (results_tmp3 rfl _ _ _) rfl ?_
      exact ⟨.inl ⟨rfl, N0.out (by omega), N1.out (by omega)⟩, BW.out⟩
end Go.Proofs.YthmmblohfjmbcaaGreat.DP
