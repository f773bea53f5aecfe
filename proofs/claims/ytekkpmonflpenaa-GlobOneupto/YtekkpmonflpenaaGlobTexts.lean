/-
  Contracts over this program: what few and text of the layer's own statements answer at any row of signs.
-/
import Derived.Test.YtekkpmonflpenaaGlobWritten
import Derived.Lib.AppendStr
namespace Go.Proofs.Ytekkpmonflpenaa
open Go.RowKit
/-- a sign of the statements -/
structure SgL where
  k : Int
  a : UInt8
  b : UInt8
  l : List UInt8
def SgL.fine (g : SgL) : Prop := -9223372036854775808 ≤ g.k ∧ g.k ≤ 9223372036854775807 ∧ g.l.length ≤ 1048576
def SgL.wr (g : SgL) : List UInt8 := Gb.wr g.k g.a g.b g.l
def txt (L : List SgL) : List UInt8 := L.flatMap SgL.wr
def txtB (L : List SgL) : ByteArray := ⟨(txt L).toArray⟩
/-- a slice that holds the signs -/
def hasSigns (w : World) (v : Value) (L : List SgL) : Prop :=
  (v = .slice none 0 0 ∧ L = []) ∨ ∃ (ad : Addr) (cap : Nat), v = .slice (some ad) L.length cap ∧ L.length ≤ cap ∧ cap ≤ maxLen ∧
    ∀ i (hi : i < L.length), ∃ rv, L[i].fine ∧ w.cell? (ad.add (i * 4)) = some (.int .i64 L[i].k) ∧ w.cell? ⟨(ad.add (i * 4)).block, (ad.add (i * 4)).off + 1, none⟩ = some (.int .u8 L[i].a.toNat) ∧ w.cell? ⟨(ad.add (i * 4)).block, (ad.add (i * 4)).off + 2, none⟩ = some (.int .u8 L[i].b.toNat) ∧
      w.cell? ⟨(ad.add (i * 4)).block, (ad.add (i * 4)).off + 3, none⟩ = some rv ∧ hasRow w rv L[i].l
theorem hasSigns_below {w w' : World} {v : Value} {L : List SgL} (h : hasSigns w v L) (hb : Below w.heap.size w w') : hasSigns w' v L := by
  rcases h with h | ⟨ad, cap, h1, h2, h3, h4⟩
  · exact .inl h
  · refine .inr ⟨ad, cap, h1, h2, h3, fun i hi => ?_⟩
    obtain ⟨rv, g0, g1, g2, g3, g4, g5⟩ := h4 i hi
    exact ⟨rv, g0, cell_on hb g1, cell_on hb g2, cell_on hb g3, cell_on hb g4, hasRow_below g5 hb⟩
theorem txt_snoc {L : List SgL} {j : Nat} (hj : j < L.length) : txt (L.take (j + 1)) = txt (L.take j) ++ L[j].wr := by
  unfold txt
  rw [List.take_succ_eq_append_getElem hj, List.flatMap_append, List.flatMap_cons, List.flatMap_nil, List.append_nil]
theorem txt_le {L : List SgL} (j : Nat) : (txt (L.take j)).length ≤ (txt L).length := by
  have h : txt L = txt (L.take j) ++ txt (L.drop j) := by
    unfold txt; rw [← List.flatMap_append, List.take_append_drop]
  rw [h, List.length_append]; omega
theorem own_text {w : World} {base : Nat} {v : Value} {l : List UInt8} (h : w.ownsRow base 5 1 v l.length (l.map encB)) :
    (convert 31 9 v).run Try.prog w = .ok (.string ⟨l.toArray⟩) w := by
  rcases h.2 with ⟨hv, hn⟩ | ⟨g, cap, cur, hv, _⟩
  · have hl : l = [] := List.eq_nil_of_length_eq_zero hn
    subst hv hl
    exact run_convert_bytes_nil w _ 5 Try.underlying31 Try.underlying5 0 0 _ Try.underlying9
  · subst hv
    exact row_text h
theorem len_signs {w : World} {v : Value} {L : List SgL} (h : hasSigns w v L) : ∃ (ao : Option Addr) (cap : Nat), v = .slice ao L.length cap ∧ L.length ≤ cap ∧ cap ≤ maxLen ∧ (∀ i (hi : i < L.length), ∃ ad rv, ao = some ad ∧ L[i].fine ∧ w.cell? (ad.add (i * 4)) = some (.int .i64 L[i].k) ∧ w.cell? ⟨(ad.add (i * 4)).block, (ad.add (i * 4)).off + 1, none⟩ = some (.int .u8 L[i].a.toNat) ∧ w.cell? ⟨(ad.add (i * 4)).block, (ad.add (i * 4)).off + 2, none⟩ = some (.int .u8 L[i].b.toNat) ∧
      w.cell? ⟨(ad.add (i * 4)).block, (ad.add (i * 4)).off + 3, none⟩ = some rv ∧ hasRow w rv L[i].l) := by
  rcases h with ⟨rfl, rfl⟩ | ⟨ad, cap, rfl, h2, h3, h4⟩
  · exact ⟨none, 0, rfl, by simp, by unfold maxLen; omega, fun i hi => absurd hi (by simp)⟩
  · refine ⟨some ad, cap, rfl, h2, h3, fun i hi => ?_⟩
    obtain ⟨rv, h⟩ := h4 i hi
    exact ⟨ad, rv, rfl, h⟩
theorem sign_at {w : World} {ao : Option Addr} {n cap : Nat} {L : List SgL} (h : hasSigns w (.slice ao n cap) L) {i : Nat} (hi : i < L.length) : ∃ ad rv, ao = some ad ∧ L[i].fine ∧ w.cell? (ad.add (i * 4)) = some (.int .i64 L[i].k) ∧ w.cell? ⟨(ad.add (i * 4)).block, (ad.add (i * 4)).off + 1, none⟩ = some (.int .u8 L[i].a.toNat) ∧ w.cell? ⟨(ad.add (i * 4)).block, (ad.add (i * 4)).off + 2, none⟩ = some (.int .u8 L[i].b.toNat) ∧
      w.cell? ⟨(ad.add (i * 4)).block, (ad.add (i * 4)).off + 3, none⟩ = some rv ∧ hasRow w rv L[i].l := by
  obtain ⟨ao', cap', h1, _, _, h4⟩ := len_signs h
  cases h1
  exact h4 i hi
theorem str_cells (l : List UInt8) : Go.Lib.strCells ⟨l.toArray⟩ = l.map encB := by
  simp [Go.Lib.strCells, encB]
theorem hasSigns_take {w : World} {ao : Option Addr} {cap : Nat} {L : List SgL} (m : Nat) (hm : m < L.length) (h : hasSigns w (.slice ao L.length cap) L) : hasSigns w (.slice ao m cap) (L.take m) := by
  have hl : (L.take m).length = m := by rw [List.length_take]; omega
  rcases h with ⟨h1, h2⟩ | ⟨ad, cap', h1, h2, h3, h4⟩
  · subst h2; simp at hm
  · cases h1
    refine .inr ⟨ad, cap, by rw [hl], by omega, h3, fun i hi => ?_⟩
    rw [hl] at hi
    rw [List.getElem_take]
    exact h4 i (by omega)
set_option maxHeartbeats 1000000 in
theorem few_any (v : Value) (L : List SgL) (w : World) (hL : L.length ≤ 1048576) (hs : hasSigns w v L) :
    Calls Try.prog 15 #[v, .int .i64 40] w fun e w' => ∃ v', e = .returned v' ∧ Kept (hasSigns w' v' (L.take 40)) ∧ w' = w := by
  have HS := keep hs
  obtain ⟨ao, cap, rfl, hlc, hcm, _⟩ := len_signs hs
  clear hs
  unfold maxLen at hcm
  by_cases h40 : 40 < L.length
  · go_enter Try.func15, Try.ntmps15
    go_wp2
    go_ret
    exact ⟨_, rfl, hasSigns_take 40 h40 HS.out, rfl⟩
  · go_enter Try.func15, Try.ntmps15
    go_wp2
    go_ret
    exact ⟨_, rfl, by rw [List.take_of_length_le (by omega)]; exact HS, rfl⟩
set_option maxHeartbeats 8000000 in
set_option maxRecDepth 100000 in
theorem text_any (v : Value) (L : List SgL) (w : World) (hL : L.length ≤ 1048576) (hT : (txt L).length ≤ 16777216) (hs : hasSigns w v L) :
    Calls Try.prog 14 #[v] w fun e w' => e = .returned (.string (txtB L)) ∧ Below w.heap.size w w' := by
  obtain ⟨i0, hi, hz0, hz1, hz2⟩ := info_u8
  have HS := keep hs
  obtain ⟨ao, cap, rfl, _, _, _⟩ := len_signs hs
  clear hs
  have hown0 := keep (World.ownsRow_lit (base := w.heap.size) (e := 5) (size := 1) w #[] 0 (Nat.le_refl _) (by unfold maxLen; omega) (by simp))
  go_enter Try.func14, Try.ntmps14
  go_wp2
  go_loopg [3, 4] L.length (fun g v3 v4 wx => ∃ j : Nat, j + g = L.length ∧ v4 = .int .i64 j ∧ Kept (wx.ownsRow w.heap.size 5 1 v3 (txt (L.take j)).length ((txt (L.take j)).map encB)) ∧ Below w.heap.size w wx)
  case atStart => exact ⟨0, by omega, rfl, hown0, by go_grown⟩
  case round =>
    obtain ⟨j, hjg, rfl, hown, hbw⟩ := hrel
    have hsz := hbw.size
    by_cases hlt : j < L.length
    · obtain ⟨ad, rv, rfl, gf, g1, g2, g3, g4, g5⟩ := sign_at (hasSigns_below HS.out hbw) hlt
      have hal := L[j].a.toNat_lt
      have hbl := L[j].b.toNat_lt
      have hwr : (L[j].wr).length ≤ 2 * L[j].l.length + 8 := Gb.wr_len _ _ _ _
      have hts := keep (txt_snoc hlt)
      have htl := txt_le (L := L) (j + 1)
      rw [hts.out, List.length_append] at htl
      have g5 := keep g5
      have gf := keep gf
      have mW := written_any L[j].k L[j].a L[j].b rv L[j].l wr gf.out.1 gf.out.2.1 gf.out.2.2 g5.out
      unfold signL at mW
      generalize hg0 : L[j] = gj at *
      go_wp2_with fail
      refine mW.mono ?_
      rintro e w1 ⟨rfl, h1⟩
      have hown1 := keep (own_below hown.out h1)
      have hb1 : Below w.heap.size w w1 := bel_trans hbw h1
      have hsz1 := hb1.size
      have hss : (Gb.wrB gj.k gj.a gj.b gj.l).size = (SgL.wr gj).length := by
        show (SgL.wr gj).toArray.size = _
        rw [List.size_toArray]
      go_wp2_with (first
        | (at_builtin; refine Go.Lib.wpList_append_own_string _ rfl _ _ 31 9 rfl w.heap.size 5 i0 Try.underlying31 Try.underlying9 hi hz0 hz1 hz2 _ _ _ rfl hown1.out (Gb.wrB gj.k gj.a gj.b gj.l) rfl ?c1 ?c2 ?c3 ?c4))
      case c1 => rw [hss]; unfold maxLen; omega
      case c2 => rw [hss]; omega
      case c3 => omega
      case c4 =>
        intro v' w3 hown3 hgrow3 _
        have hb3 : Below w.heap.size w w3 := Below.grown hb1 hgrow3 hsz1 (fun k hk => (hown1.out.lt k hk).1)
        have hown4 : Kept (w3.ownsRow w.heap.size 5 1 v' (txt (L.take (j + 1))).length ((txt (L.take (j + 1))).map encB)) := by
          have e := hown3
          rw [hts.out, List.length_append, List.map_append]
          have e2 : Go.Lib.strCells (Gb.wrB gj.k gj.a gj.b gj.l) = (SgL.wr gj).map encB := str_cells _
          rw [e2] at e
          exact e
        clear hown3 hgrow3
        go_wp2
        go_roundg (L.length - (j + 1))
        case measure => omega
        case rel => exact ⟨j + 1, by omega, by go_num, hown4, hb3⟩
    · have hta : L.take j = L := List.take_of_length_le (by omega)
      rw [hta] at hown
      have rt := own_text hown.out
      go_wp2
      go_ret
      exact ⟨rfl, hbw⟩
end Go.Proofs.Ytekkpmonflpenaa
