/-
  Contracts over this program: what glob.Match answers at any pattern and text.
-/
import Derived.Test.YtmlpfijabdkbjaaGlobSigns
import Derived.Deep.LoopGhost
import Derived.Deep.RegionHeld3
namespace Go.Proofs.Ytmlpfijabdkbjaa
open Go.RowKit
namespace Gb
/-- the answer -/
def ans (p s : ByteArray) : Bool := M (sgs (D p 0)) (D s 0)
/-- what a try begins with -/
def outer (p s : ByteArray) (st : Bool) (bs bg : Nat) : Prop :=
  (st = true ∧ M (.star :: sgs (D p bs)) (D s bg) = ans p s) ∨ (st = false ∧ bs = 0 ∧ bg = 0)
/-- where a try stands: the signs so far fit the bytes so far -/
def inner (p s : ByteArray) (st : Bool) (bs bg k i : Nat) : Prop :=
  (st = true ∧ (∃ pre, sgs (D p bs) = pre ++ sgs (D p i) ∧ fits pre ((D s bg).take (k - bg)) = true) ∧ M (.star :: sgs (D p bs)) (D s bg) = ans p s) ∨
  (st = false ∧ M (sgs (D p i)) (D s k) = ans p s)
theorem inner_of_outer {p s : ByteArray} {st : Bool} {bs bg : Nat} (h : outer p s st bs bg) : inner p s st bs bg bg bs := by
  rcases h with ⟨h1, h2⟩ | ⟨h1, rfl, rfl⟩
  · exact .inl ⟨h1, ⟨[], rfl, by rw [Nat.sub_self]; rfl⟩, h2⟩
  · exact .inr ⟨h1, rfl⟩
theorem sgs_at {p : ByteArray} {i n : Nat} {g : Sg} (hi : i < p.size) (h : rs (D p i) = (g, D p n)) : sgs (D p i) = g :: sgs (D p n) := by
  rw [sgs_cons (D_ne p i hi), h]
theorem cut_at {s : ByteArray} {bg k : Nat} (h : bg ≤ k) : D s bg = (D s bg).take (k - bg) ++ D s k := by
  have e : D s k = (D s bg).drop (k - bg) := by
    unfold D; rw [List.drop_drop]; congr 1; omega
  rw [e, List.take_append_drop]
theorem take_more {s : ByteArray} {bg k : Nat} (h : bg ≤ k) (hk : k < s.size) : (D s bg).take (k + 1 - bg) = (D s bg).take (k - bg) ++ [s[k]] := by
  have e : D s bg = (D s bg).take (k - bg) ++ D s k := cut_at h
  have hl : ((D s bg).take (k - bg)).length = k - bg := by rw [List.length_take, D_len]; omega
  rw [show k + 1 - bg = (k - bg) + 1 from by omega]
  conv => lhs; rw [e]
  rw [List.take_append, hl, List.take_of_length_le (by omega)]
  rw [show k - bg + 1 - (k - bg) = 1 from by omega, D_cons s k hk]
  rfl
theorem in_star {p s : ByteArray} {st : Bool} {bs bg k i n : Nat} (h : inner p s st bs bg k i) (hb : bg ≤ k) (hi : i < p.size) (hr : rs (D p i) = (.star, D p n)) : inner p s true n k k n := by
  have e := sgs_at hi hr
  rcases h with ⟨_, ⟨pre, h2, h3⟩, h4⟩ | ⟨_, h2⟩
  · refine .inl ⟨rfl, ⟨[], rfl, by rw [Nat.sub_self]; rfl⟩, ?_⟩
    rw [h2, e] at h4
    rw [← h4]
    conv => rhs; rw [cut_at (s := s) hb]
    rw [greedy h3]
  · refine .inl ⟨rfl, ⟨[], rfl, by rw [Nat.sub_self]; rfl⟩, ?_⟩
    rw [← h2, e]
theorem in_short {p s : ByteArray} {st : Bool} {bs bg k i n : Nat} {g : Sg} (h : inner p s st bs bg k i) (hk : k = s.size) (hi : i < p.size) (hr : rs (D p i) = (g, D p n)) (hg : g.isStar = false) : ans p s = false := by
  have e := sgs_at hi hr
  subst hk
  rcases h with ⟨_, ⟨pre, h2, h3⟩, h4⟩ | ⟨_, h2⟩
  · rw [h2, e] at h4
    rw [← h4]
    rw [List.take_of_length_le (by rw [D_len]; omega)] at h3
    exact star_short h3 hg
  · rw [← h2, e, D_nil s _ (Nat.le_refl _), M_one_nil hg]
theorem in_fit {p s : ByteArray} {st : Bool} {bs bg k i n : Nat} {g : Sg} (h : inner p s st bs bg k i) (hb : bg ≤ k) (hk : k < s.size) (hi : i < p.size) (hr : rs (D p i) = (g, D p n)) (hg : g.isStar = false) (hm : g.means s[k] = true) : inner p s st bs bg (k + 1) n := by
  have e := sgs_at hi hr
  rcases h with ⟨h1, ⟨pre, h2, h3⟩, h4⟩ | ⟨h1, h2⟩
  · refine .inl ⟨h1, ⟨pre ++ [g], by rw [h2, e]; simp, ?_⟩, h4⟩
    rw [take_more hb hk]
    exact fits_snoc h3 hg hm
  · refine .inr ⟨h1, ?_⟩
    rw [← h2, e, D_cons s k hk, M_one_cons hg, hm, Bool.true_and]
theorem in_no {p s : ByteArray} {bs bg k i n : Nat} {g : Sg} (h : inner p s false bs bg k i) (hk : k < s.size) (hi : i < p.size) (hr : rs (D p i) = (g, D p n)) (hg : g.isStar = false) (hm : g.means s[k] = false) : ans p s = false := by
  have e := sgs_at hi hr
  rcases h with ⟨h1, _⟩ | ⟨_, h2⟩
  · cases h1
  · rw [← h2, e, D_cons s k hk, M_one_cons hg, hm, Bool.false_and]
theorem in_again {p s : ByteArray} {bs bg k i : Nat} (h : inner p s true bs bg k i) (hb : bg ≤ k) (hk : k < s.size) (hm : M (sgs (D p i)) (D s k) = false) : outer p s true bs (bg + 1) := by
  rcases h with ⟨_, ⟨pre, h2, h3⟩, h4⟩ | ⟨h1, _⟩
  · refine .inl ⟨rfl, ?_⟩
    rw [← h4, D_cons s bg (by omega)]
    symm
    apply star_step
    rw [← D_cons s bg (by omega), h2]
    rw [cut_at (s := s) hb, M_fits h3, hm]
  · cases h1
theorem miss_sign {p s : ByteArray} {k i n : Nat} {g : Sg} (hk : k < s.size) (hi : i < p.size) (hr : rs (D p i) = (g, D p n)) (hg : g.isStar = false) (hm : g.means s[k] = false) : M (sgs (D p i)) (D s k) = false := by
  rw [sgs_at hi hr, D_cons s k hk, M_one_cons hg, hm, Bool.false_and]
theorem miss_end {p s : ByteArray} {k i : Nat} (hk : k < s.size) (hi : p.size ≤ i) : M (sgs (D p i)) (D s k) = false := by
  rw [D_nil p i hi, sgs_nil, D_cons s k hk]; rfl
theorem in_end {p s : ByteArray} {st : Bool} {bs bg k i : Nat} (h : inner p s st bs bg k i) (hi : p.size ≤ i) (hb : bg ≤ k) (hk : s.size ≤ k) : ans p s = true := by
  rcases h with ⟨_, ⟨pre, h2, h3⟩, h4⟩ | ⟨_, h2⟩
  · rw [← h4]
    apply star_yes
    rw [h2, cut_at (s := s) hb, M_fits h3, D_nil p i hi, D_nil s k hk, sgs_nil]; rfl
  · rw [← h2, D_nil p i hi, D_nil s k hk, sgs_nil]; rfl
theorem in_left {p s : ByteArray} {bs bg k i : Nat} (h : inner p s false bs bg k i) (hi : p.size ≤ i) (hk : k < s.size) : ans p s = false := by
  rcases h with ⟨h1, _⟩ | ⟨_, h2⟩
  · cases h1
  · rw [← h2, miss_end hk hi]
end Gb
theorem not_star {k : Int} {b : UInt8} {t : ByteArray} {g : Gb.Sg} (h : isSign k b t g) (hk : ¬ k = 1) : g.isStar = false := by
  rcases g with _ | _ | _ | _ <;> first | rfl | exact absurd h hk
theorem is_star {b : UInt8} {t : ByteArray} {g : Gb.Sg} (h : isSign 1 b t g) : g = .star := by
  rcases g with _ | _ | c | l
  · rfl
  · exact absurd (show (1 : Int) = 2 from h) (by decide)
  · exact absurd (show (1 : Int) = 0 from h.1) (by decide)
  · exact absurd (show (1 : Int) = 3 from h.1) (by decide)
set_option maxHeartbeats 4000000 in
set_option maxRecDepth 100000 in
theorem match_any (p s : ByteArray) (w : World) (hp : p.size ≤ 1099511627776) (hs : s.size ≤ 1099511627776) :
    Calls Try.prog 5 #[.string p, .string s] w fun e w' => e = .returned (.bool (Gb.ans p s)) ∧ Below w.heap.size w w' := by
  go_enter Try.func5, Try.ntmps5
  go_wp2
  go_step3
  go_wp2
  go_step3
  go_wp2
  go_loopg [5, 6, 7] s.size (fun g v5 v6 v7 wx => ∃ (bs bg : Nat) (st : Bool), bg + g = s.size ∧ bs ≤ p.size ∧ v5 = .int .i64 bs ∧ v7 = .int .i64 bg ∧ v6 = .bool st ∧ Aside (Gb.outer p s st bs bg) ∧ Below w.heap.size w wx)
  case atStart => exact ⟨0, 0, false, by omega, by omega, rfl, rfl, rfl, .inr ⟨rfl, rfl, rfl⟩, by go_grown⟩
  case round =>
    obtain ⟨bs0, bg0, st0, hbg0, hbs0, rfl, rfl, rfl, HO, hgx⟩ := hrel
    go_wp2
    obtain ⟨wo, hwo⟩ : ∃ x, x = wr := ⟨_, rfl⟩
    subst hwo
    go_loopg [5, 6, 7, 8, 9] (p.size - bs0) (fun g2 v5 v6 v7 v8 v9 wx => ∃ (bs bg k i : Nat) (st : Bool), i + g2 = p.size ∧ bg0 ≤ bg ∧ bg ≤ k ∧ k ≤ s.size ∧ bs ≤ p.size ∧ v5 = .int .i64 bs ∧ v7 = .int .i64 bg ∧ v6 = .bool st ∧ v8 = .int .i64 k ∧ v9 = .int .i64 i ∧ Aside (Gb.inner p s st bs bg k i) ∧ Below w.heap.size w wx)
    case atStart => exact ⟨bs0, bg0, bg0, bs0, st0, by omega, by omega, by omega, by omega, by omega, rfl, rfl, rfl, rfl, rfl, Gb.inner_of_outer HO.out, hgx⟩
    case round =>
      obtain ⟨bs, bg, k, i, st, hi, hb0, hbk, hk, hbs, rfl, rfl, rfl, rfl, rfl, HI, hgr⟩ := hrel
      clear HO hgx
      by_cases hip : i < p.size
      · go_wp2_with fail
        refine (readSign_any p i _ hp hip).mono ?_
        rintro e w1 ⟨kd, b, t, n, rfl, hg1, hsg⟩
        obtain ⟨g, hr, hsn, hn1, hn2, ht⟩ := hsg.out
        have hr := keep hr
        have hsn := keep hsn
        have hgg : Below w.heap.size w w1 := bel_trans hgr hg1
        have hsz := hgg.size
        clear hsg hgr hg1
        have hbl := b.toNat_lt
        by_cases hk1 : kd = 1
        · subst hk1
          obtain rfl := is_star hsn.out
          have st2 : Aside (Gb.inner p s true n k k n) := Gb.in_star HI.out hbk hip hr.out
          clear HI
          unfold signV
          go_wp2
          go_roundg (p.size - n)
          case measure => omega
          case rel => exact ⟨n, k, k, n, true, by omega, by omega, by omega, hk, hn2, rfl, rfl, rfl, rfl, rfl, st2, by go_grown⟩
        · have hns := not_star hsn.out hk1
          have hns := keep hns
          by_cases hks : k = s.size
          · have an := keep (Gb.in_short HI.out hks hip hr.out hns.out)
            unfold signV
            go_wp2
            try rw [Exit.noGoto_ret]
            go_ret
            exact ⟨ret_b an.out.symm, by go_grown⟩
          · have hks' : k < s.size := by omega
            have hx := s[k].toNat_lt
            have cm := fun w => means_any kd b t g s[k] w (by omega) hsn.out
            unfold signV at cm
            cases hm : g.means s[k]
            · rw [hm] at cm
              have hms := keep (Gb.miss_sign hks' hip hr.out hns.out hm)
              cases st
              · have an := keep (Gb.in_no HI.out hks' hip hr.out hns.out hm)
                clear hm
                unfold signV
                go_wp2
                go_region_held3 (fun w' => w'.cell? ⟨w1.heap.size, 0, none⟩ = some (.int .i64 kd) ∧ w'.cell? ⟨w1.heap.size, 1, none⟩ = some (.int .u8 b.toNat) ∧ w'.cell? ⟨w1.heap.size, 2, none⟩ = some (.string t)) (first | go_keep | (simp [go_sem]; done))
                  ((go_at_call 10; refine (cm _).mono ?_; rintro e w' ⟨rfl, rfl⟩))
                all_goals go_wp2
                all_goals
                  try rw [Exit.noGoto_ret]
                  go_ret
                  exact ⟨ret_b an.out.symm, by go_grown⟩
              · have st2 : Aside (Gb.outer p s true bs (bg + 1)) := Gb.in_again HI.out hbk hks' hms.out
                clear HI hm
                unfold signV
                go_wp2
                go_region_held3 (fun w' => w'.cell? ⟨w1.heap.size, 0, none⟩ = some (.int .i64 kd) ∧ w'.cell? ⟨w1.heap.size, 1, none⟩ = some (.int .u8 b.toNat) ∧ w'.cell? ⟨w1.heap.size, 2, none⟩ = some (.string t)) (first | go_keep | (simp [go_sem]; done))
                  ((go_at_call 10; refine (cm _).mono ?_; rintro e w' ⟨rfl, rfl⟩))
                all_goals go_wp2
                all_goals
                  go_roundg (s.size - (bg + 1))
                  case measure => omega
                  case rel => exact ⟨bs, bg + 1, true, by omega, hbs, rfl, by go_num, rfl, st2, by go_grown⟩
            · rw [hm] at cm
              have st2 : Aside (Gb.inner p s st bs bg (k + 1) n) := Gb.in_fit HI.out hbk hks' hip hr.out hns.out hm
              clear HI hm
              unfold signV
              go_wp2
              go_region_held3 (fun w' => w'.cell? ⟨w1.heap.size, 0, none⟩ = some (.int .i64 kd) ∧ w'.cell? ⟨w1.heap.size, 1, none⟩ = some (.int .u8 b.toNat) ∧ w'.cell? ⟨w1.heap.size, 2, none⟩ = some (.string t)) (first | go_keep | (simp [go_sem]; done))
                ((go_at_call 10; refine (cm _).mono ?_; rintro e w' ⟨rfl, rfl⟩))
              all_goals go_wp2
              all_goals
                go_roundg (p.size - n)
                case measure => omega
                case rel => exact ⟨bs, bg, k + 1, n, st, by omega, by omega, by omega, by omega, by omega, rfl, rfl, rfl, by go_num, rfl, st2, by go_grown⟩
      · have hip' : p.size ≤ i := by omega
        by_cases hks : k = s.size
        · have an := keep (Gb.in_end HI.out hip' hbk (by omega))
          go_wp2
          try rw [Exit.noGoto_ret]
          go_ret
          exact ⟨ret_b an.out.symm, by go_grown⟩
        · have hks' : k < s.size := by omega
          have hf : ((k : Int) == (s.size : Int)) = false := beq_eq_false_iff_ne.2 (by omega)
          cases st
          · have an := keep (Gb.in_left HI.out hip' hks')
            go_wp2
            try rw [Exit.noGoto_ret]
            go_ret
            exact ⟨ret_b an.out.symm, by go_grown⟩
          · have st2 : Aside (Gb.outer p s true bs (bg + 1)) := Gb.in_again HI.out hbk hks' (Gb.miss_end hks' hip')
            clear HI
            go_wp2
            go_roundg (s.size - (bg + 1))
            case measure => omega
            case rel => exact ⟨bs, bg + 1, true, by omega, hbs, rfl, by go_num, rfl, st2, by go_grown⟩
end Go.Proofs.Ytmlpfijabdkbjaa
