/-
  Contracts over this program: Decode of any bytes.
-/
import Derived.Test.YtoalnfkjpdgbiaaDoorRpArr
import Derived.Test.YtoalnfkjpdgbiaaDoorDigs
/-
  Contracts over this program: what is told of a reply that was read; the line ahead, by lineF; bulks, by bulkF.
-/
namespace Go.Proofs.YtoalnfkjpdgbiaaDoor
open Go.RowKit
set_option linter.unusedVariables false
theorem told_err {n p : Nat} {w w' : World} {x : List UInt8} {c : Int} {e : Ending} (h : So w p x) (hc : c ≠ 0) (he : e = .returned (.tuple #[nought, .int .i64 c])) (hb : Below w.heap.size w w') :
    Told n p w x.length (.error c) e w' := ⟨Gp.of hb, hc, he, x, h.later hb, Nat.le_refl _⟩
theorem told_flat {n p len : Nat} {w w' : World} {x : List UInt8} {k i : Int} {s : ByteArray} {e : Ending} (hk : I64 k) (hi : I64 i) (hs : s.size < 4294967281) (he : e = .returned (.tuple #[.agg #[.int .i64 k, .string s, .int .i64 i, .slice none 0 0], .int .i64 0]))
    (h : So w' p x) (hl : x.length ≤ len) (hg : Gp p w w') : Told (n + 1) p w len (.ok ((k, s, i, []), x)) e w' :=
  ⟨hg, ⟨[.int .i64 k, .string s, .int .i64 i, .slice none 0 0], he, ⟨_, rfl, .inl ⟨rfl, _, rfl⟩, hk, hi, hs⟩⟩, h, hl⟩
theorem Told.six {n p len : Nat} {w w' : World} {Z : Except Int (Rp.T n × List UInt8)} {e : Ending} (h : Told n p w len Z e w') :
    ∃ k s i o m c d, e = .returned (.tuple #[.agg #[.int .i64 k, .string s, .int .i64 i, .slice o m c], .int .i64 d]) := by
  cases Z with
  | error c => obtain ⟨_, _, he, _⟩ := h; exact ⟨_, _, _, _, _, _, _, he⟩
  | ok y =>
    obtain ⟨t, x⟩ := y
    obtain ⟨_, ⟨cs, he, ht⟩, _⟩ := h
    obtain ⟨k, s, i, o, m, c, rfl, _⟩ := ht.six
    exact ⟨_, _, _, _, _, _, _, he⟩
theorem told_up {n p len len1 b : Nat} {w0 w1 w' : World} {Z : Except Int (Rp.T n × List UInt8)} {e : Ending} (h : Told n p w1 len1 Z e w') (g : Gp p w0 w1) (hl : len1 ≤ len) (h0 : w0.heap.size ≤ b) (h1 : b < w1.heap.size) (hp : p < w0.heap.size) (b0 b1 b2 b3 : Value) :
    Told n p w0 len Z e (set4 w' b b0 b1 b2 b3) := by
  have fz : (set4 w' b b0 b1 b2 b3).heap.size = w'.heap.size := by simp [set4, World.setCell]
  refine ⟨Gp.four (g.trans h.1) h0 _ _ _ _, ?_⟩
  cases Z with
  | error c =>
    obtain ⟨_, hc, he, x, hx, hxl⟩ := h
    exact ⟨hc, he, x, hx.four (by omega) _ _ _ _, Nat.le_trans hxl hl⟩
  | ok y =>
    obtain ⟨t, x⟩ := y
    obtain ⟨_, ⟨cs, he, ht⟩, hx, hxl⟩ := h
    exact ⟨⟨cs, he, Tel.mono (fun k hk => ⟨Nat.le_trans g.size hk.1, by rw [fz]; exact hk.2⟩) (fun k hk => four_other (by omega) _ _ _ _) _ _ _ ht⟩, hx.four (by omega) _ _ _ _, Nat.le_trans hxl hl⟩
theorem lineF_err {r : List UInt8} {c : Int} (h : Rp.lineF r = .error c) (w : World) (p : Nat) (hs : So w p r) (hv : Vars w) (hm : r.length < 140737488355328) : c ≠ 0 ∧
    Calls Tryd.prog 59 #[.pointer (some ⟨p, 0, none⟩)] w fun e w' => e = .returned (.tuple #[.string .empty, .int .i64 c]) ∧ Below w.heap.size w w' := by
  have hge := Lib.indexAny_ge crs r
  by_cases hi : Lib.indexAny r crs = -1
  · have := lineF_none r hi
    rw [this] at h
    injection h with h
    subst h
    exact ⟨by decide, line_none w p r hs hv (Nat.le_of_lt hm) hi⟩
  · obtain ⟨k, hk⟩ : ∃ k : Nat, Lib.indexAny r crs = k := ⟨(Lib.indexAny r crs).toNat, by omega⟩
    obtain ⟨_, h2, h3, h4⟩ := lineF_hit r k hk
    by_cases q1 : (r.drop k).take 2 = [13, 10]
    · rw [h2 q1] at h; cases h
    · by_cases q2 : (r.drop k).take 2 = [13]
      · rw [h3 q2] at h
        injection h with h
        subst h
        exact ⟨by decide, line_short w p r k hs hv hm hk q2⟩
      · rw [h4 q1 q2] at h
        injection h with h
        subst h
        exact ⟨by decide, line_bad w p r k hs hv hm hk q1 q2⟩
theorem lineF_ok {r s r' : List UInt8} (h : Rp.lineF r = .ok (s, r')) (w : World) (p : Nat) (hs : So w p r) (hv : Vars w) (hm : r.length < 140737488355328) : s.length ≤ r.length ∧ r'.length ≤ r.length ∧
    Calls Tryd.prog 59 #[.pointer (some ⟨p, 0, none⟩)] w fun e w' => e = .returned (.tuple #[.string (Rp.ofL s), .int .i64 0]) ∧ So w' p r' ∧ Gp p w w' := by
  have hge := Lib.indexAny_ge crs r
  by_cases hi : Lib.indexAny r crs = -1
  · rw [lineF_none r hi] at h; cases h
  · obtain ⟨k, hk⟩ : ∃ k : Nat, Lib.indexAny r crs = k := ⟨(Lib.indexAny r crs).toNat, by omega⟩
    obtain ⟨_, h2, h3, h4⟩ := lineF_hit r k hk
    by_cases q1 : (r.drop k).take 2 = [13, 10]
    · rw [h2 q1] at h
      injection h with h
      injection h with e1 e2
      subst e1
      subst e2
      exact ⟨by rw [List.length_take]; omega, by rw [List.length_drop]; omega, line_ok w p r k hs hv hm hk q1⟩
    · by_cases q2 : (r.drop k).take 2 = [13]
      · rw [h3 q2] at h; cases h
      · rw [h4 q1 q2] at h; cases h
theorem bulk_told (n p : Nat) (w : World) (s r : List UInt8) (h : So w p r) (hs : s.length ≤ maxLen) (hr : r.length < 4294967281) :
    Calls Tryd.prog 61 #[.pointer (some ⟨p, 0, none⟩), .string (Rp.ofL s)] w (Told (n + 1) p w r.length (Rp.bulkF s r)) := by
  unfold Rp.bulkF
  by_cases h1 : s = [45, 49]
  · rw [if_pos h1, h1]
    exact (bulk_null w p).mono fun e w' ⟨he, hb⟩ => told_flat ⟨by decide, by decide⟩ ⟨by decide, by decide⟩ (by decide) he (h.later hb) (Nat.le_refl _) (Gp.of hb)
  · rw [if_neg h1]
    cases h2 : Rp.cntF s with
    | error c => exact (bulk_err w p s c hs h1 h2).mono fun e w' ⟨he, hb⟩ => told_err h (cnt_err h2 w hs).1 he hb
    | ok m =>
      dsimp only
      by_cases h3 : r.length < m + 2
      · rw [if_pos h3]
        exact (bulk_short w p s r m h hs h1 h2 h3).mono fun e w' ⟨he, hb⟩ => told_err h (by decide) he hb
      · rw [if_neg h3]
        by_cases h4 : (r.drop m).take 2 = Rp.crlf
        · rw [if_pos h4]
          exact (bulk_ok w p s r m h hs h1 h2 (by omega) h4 (by omega)).mono fun e w' ⟨he, hx, hg⟩ => told_flat ⟨by decide, by decide⟩ ⟨by decide, by decide⟩ (by rw [Rp.ofL_size, List.length_take]; omega) he hx (by rw [List.length_drop]; omega) hg
        · rw [if_neg h4]
          exact (bulk_bad w p s r m h hs h1 h2 (by omega) h4).mono fun e w' ⟨he, hb⟩ => told_err h (by decide) he hb
theorem iv_in (l : List UInt8) : I64 (Pl.iv l) := by
  unfold I64
  rcases Pl.ways l with ⟨h, _⟩ | ⟨v, _, hv, h, _⟩ | ⟨v, hv, h, _⟩ <;> (rw [h]; omega)
theorem int_told (n p : Nat) (w : World) (s r : List UInt8) (h : So w p r) (hs : s.length ≤ maxLen) :
    Calls Tryd.prog 60 #[.string (Rp.ofL s)] w (Told (n + 1) p w r.length (if Pl.ic s = 0 then .ok ((3, .empty, Pl.iv s, []), r) else .error 160)) := by
  by_cases h1 : Pl.ic s = 0
  · rw [if_pos h1]
    exact (ofInt_ok (Rp.ofL s) w (by rw [Rp.ofL_size]; exact hs) h1).mono fun e w' ⟨he, hb⟩ => told_flat ⟨by decide, by decide⟩ (iv_in s) (by decide) he (h.later hb) (Nat.le_refl _) (Gp.of hb)
  · rw [if_neg h1]
    exact (ofInt_bad (Rp.ofL s) w (by rw [Rp.ofL_size]; exact hs) h1).mono fun e w' ⟨he, hb⟩ => told_err h (by decide) he hb
end Go.Proofs.YtoalnfkjpdgbiaaDoor

/-
  Contracts over this program: a reply is read, whatever the bytes.
-/
namespace Go.Proofs.YtoalnfkjpdgbiaaDoor
open Go.RowKit
set_option linter.unusedVariables false
theorem told_low {n p len : Nat} {w0 w1 : World} {c : Int} {x : List UInt8} {e : Ending} (h : So w1 p x) (g : Gp p w0 w1) (hc : c ≠ 0) (he : e = .returned (.tuple #[nought, .int .i64 c])) (hl : x.length ≤ len) {b : Nat} (h0 : w0.heap.size ≤ b) (hp : p < w0.heap.size) (b0 b1 b2 b3 : Value) :
    Told n p w0 len (.error c) e (set4 w1 b b0 b1 b2 b3) :=
  ⟨Gp.four g h0 _ _ _ _, hc, he, x, h.four (by omega) _ _ _ _, hl⟩
theorem lineF_ne {r : List UInt8} {c : Int} (h : Rp.lineF r = .error c) : c ≠ 0 := by
  have hge := Lib.indexAny_ge crs r
  by_cases hi : Lib.indexAny r crs = -1
  · rw [lineF_none r hi] at h
    injection h with h
    subst h
    decide
  · obtain ⟨k, hk⟩ : ∃ k : Nat, Lib.indexAny r crs = k := ⟨(Lib.indexAny r crs).toNat, by omega⟩
    obtain ⟨_, h2, h3, h4⟩ := lineF_hit r k hk
    by_cases q1 : (r.drop k).take 2 = [13, 10]
    · rw [h2 q1] at h; cases h
    · by_cases q2 : (r.drop k).take 2 = [13]
      · rw [h3 q2] at h
        injection h with h
        subst h
        decide
      · rw [h4 q1 q2] at h
        injection h with h
        subst h
        decide
theorem lineF_len {r s r' : List UInt8} (h : Rp.lineF r = .ok (s, r')) : s.length ≤ r.length ∧ r'.length ≤ r.length := by
  have hge := Lib.indexAny_ge crs r
  by_cases hi : Lib.indexAny r crs = -1
  · rw [lineF_none r hi] at h; cases h
  · obtain ⟨k, hk⟩ : ∃ k : Nat, Lib.indexAny r crs = k := ⟨(Lib.indexAny r crs).toNat, by omega⟩
    obtain ⟨_, h2, h3, h4⟩ := lineF_hit r k hk
    by_cases q1 : (r.drop k).take 2 = [13, 10]
    · rw [h2 q1] at h
      injection h with h
      injection h with e1 e2
      subst e1
      subst e2
      exact ⟨by rw [List.length_take]; omega, by rw [List.length_drop]; omega⟩
    · by_cases q2 : (r.drop k).take 2 = [13]
      · rw [h3 q2] at h; cases h
      · rw [h4 q1 q2] at h; cases h
/-- what reply does ahead of all: a block for its answer -/
theorem rep_pre (w : World) : ∃ W1, w.alloc (.cells #[.int .i64 0, .string ⟨#[]⟩, .int .i64 0, .slice none 0 0] 25) = W1 ∧ Kept (Box W1 w.heap.size (.int .i64 0) (.string ⟨#[]⟩) (.int .i64 0) (.slice none 0 0)) ∧ Kept (Below w.heap.size w W1) :=
  ⟨_, rfl, keep (Box.new w _ _ _ _), keep ((Below.refl _ _).alloc (Nat.le_refl _) _)⟩
set_option maxHeartbeats 1000000 in
theorem reply_nil (n p : Nat) (w : World) (wi : Int) (h : So w p []) :
    Calls Tryd.prog 46 #[.pointer (some ⟨p, 0, none⟩), .int .i64 wi] w (Told (n + 1) p w 0 (.error 5)) := by
  obtain ⟨W1, hW1, X1, B1⟩ := rep_pre w
  have KD := keep (kind_nil W1 p (h.later B1.out))
  have S1 := keep (h.later B1.out)
  have LT := keep h.lt
  obtain ⟨d0, d1, d2, d3⟩ := X1.out.cells
  have f0 := X1.out.free 0
  have f1 := X1.out.free 1
  have f2 := X1.out.free 2
  have f3 := X1.out.free 3
  clear h
  go_enter Tryd.func46, Tryd.ntmps46
  go_wp2_with fail
  refine KD.out.mono ?_
  rintro e w' ⟨rfl, rfl⟩
  go_wp2
  (try simp only [Exit.inBlock, Exit.then])
  refine bodyPost_ret (res_rp2 rfl _ _ w.heap.size _ _ _ _ rfl (Box.four X1.out _ _ _ _)) rfl ?_
  exact told_low S1.out (Gp.of B1.out) (by decide) rfl (Nat.le_refl _) (Nat.le_refl _) LT.out _ _ _ _
set_option maxHeartbeats 1000000 in
theorem reply_bad (n p : Nat) (w : World) (wi : Int) (z : UInt8) (r : List UInt8) (h : So w p (z :: r)) (hk : Rp.kindF z = 0) (hm : r.length < 140737488355328) :
    Calls Tryd.prog 46 #[.pointer (some ⟨p, 0, none⟩), .int .i64 wi] w (Told (n + 1) p w (z :: r).length (.error 160)) := by
  obtain ⟨W1, hW1, X1, B1⟩ := rep_pre w
  have KD := keep (kind_bad W1 p z r (h.later B1.out) hk hm)
  have S1 := keep (h.later B1.out)
  have LT := keep h.lt
  obtain ⟨d0, d1, d2, d3⟩ := X1.out.cells
  have f0 := X1.out.free 0
  have f1 := X1.out.free 1
  have f2 := X1.out.free 2
  have f3 := X1.out.free 3
  clear h hk hm
  generalize hn : (z :: r).length = len at *
  have HN := keep hn
  clear hn
  go_enter Tryd.func46, Tryd.ntmps46
  go_wp2_with fail
  refine KD.out.mono ?_
  rintro e w' ⟨rfl, rfl⟩
  go_wp2
  (try simp only [Exit.inBlock, Exit.then])
  refine bodyPost_ret (res_rp2 rfl _ _ w.heap.size _ _ _ _ rfl (Box.four X1.out _ _ _ _)) rfl ?_
  exact told_low S1.out (Gp.of B1.out) (by decide) rfl (Nat.le_of_eq HN.out) (Nat.le_refl _) LT.out _ _ _ _
set_option maxHeartbeats 1000000 in
theorem reply_line (n p : Nat) (w : World) (wi : Int) (z : UInt8) (r : List UInt8) (c : Int) (h : So w p (z :: r)) (hv : Vars w) (h3 : 3 ≤ p) (hk : Rp.kindF z ≠ 0) (hm : r.length < 140737488355328) (hc : Rp.lineF r = .error c) :
    Calls Tryd.prog 46 #[.pointer (some ⟨p, 0, none⟩), .int .i64 wi] w (Told (n + 1) p w (z :: r).length (.error c)) := by
  obtain ⟨W1, hW1, X1, B1⟩ := rep_pre w
  have LT := keep h.lt
  have KD := keep (kind_ok W1 p z r (h.later B1.out) hk hm)
  have V1 := keep (hv.below B1.out)
  have LN := keep (fun w1 h1 hv1 => (lineF_err hc w1 p h1 hv1 hm).2)
  have HC := keep (lineF_ne hc)
  have hcq : (c != 0) = true := by simpa using lineF_ne hc
  have PZ : Kept (p ≤ W1.heap.size) := keep (Nat.le_trans (Nat.le_of_lt LT.out) B1.out.size)
  have H3 := keep h3
  have HM := keep hm
  generalize Rp.kindF z = k at *
  have HN : Kept (r.length ≤ (z :: r).length) := keep (by simp)
  generalize (z :: r).length = len at *
  clear h hv hk hm hc h3
  go_enter Tryd.func46, Tryd.ntmps46
  go_wp2_with fail
  refine KD.out.mono ?_
  rintro e w2 ⟨rfl, s2, g2⟩
  have S2 := keep s2
  have G2 := keep g2
  have V2 := keep (V1.out.gp g2 PZ.out H3.out)
  clear s2 g2 hW1
  go_wp2_with fail
  refine (LN.out _ S2.out V2.out).mono ?_
  rintro e w3 ⟨rfl, b3⟩
  have X3 := keep ((X1.out.gp G2.out (by have := LT.out; omega)).below b3 (Nat.lt_of_lt_of_le X1.out.lt G2.out.size))
  have S3 := keep (S2.out.later b3)
  have G3 := keep (((Gp.of B1.out).trans G2.out).trans (Gp.of b3))
  obtain ⟨d0, d1, d2, d3⟩ := X3.out.cells
  have f0 := X3.out.free 0
  have f1 := X3.out.free 1
  have f2 := X3.out.free 2
  have f3 := X3.out.free 3
  clear b3
  go_wp2
  (try simp only [Exit.inBlock, Exit.then])
  refine bodyPost_ret (res_rp2 rfl _ _ w.heap.size _ _ _ _ rfl (Box.four X3.out _ _ _ _)) rfl ?_
  exact told_low S3.out G3.out HC.out rfl HN.out (Nat.le_refl _) LT.out _ _ _ _
set_option maxHeartbeats 1000000 in
theorem reply_int (n p : Nat) (w : World) (wi : Int) (z : UInt8) (r s r' : List UInt8) (Z : Except Int (Rp.T (n + 1) × List UInt8)) (h : So w p (z :: r)) (hv : Vars w) (h3 : 3 ≤ p) (hk : Rp.kindF z = 3) (hm : r.length < 140737488355328) (hl : Rp.lineF r = .ok (s, r'))
    (CA : ∀ w1, So w1 p r' → Vars w1 → Calls Tryd.prog 60 #[.string (Rp.ofL s)] w1 (Told (n + 1) p w1 r'.length Z)) :
    Calls Tryd.prog 46 #[.pointer (some ⟨p, 0, none⟩), .int .i64 wi] w (Told (n + 1) p w (z :: r).length Z) := by
  obtain ⟨W1, hW1, X1, B1⟩ := rep_pre w
  have LT := keep h.lt
  have KD := keep (kind_ok W1 p z r (h.later B1.out) (by rw [hk]; decide) hm)
  rw [hk] at KD
  have V1 := keep (hv.below B1.out)
  have LN := keep (fun w1 h1 hv1 => (lineF_ok hl w1 p h1 hv1 hm).2.2)
  have PZ : Kept (p ≤ W1.heap.size) := keep (Nat.le_trans (Nat.le_of_lt LT.out) B1.out.size)
  have H3 := keep h3
  have CK := keep CA
  have HN : Kept (r'.length ≤ (z :: r).length) := keep (by have h2 := lineF_len hl; simp; omega)
  generalize (z :: r).length = len at *
  generalize Rp.ofL s = s' at *
  clear h hv hk hm h3 hl CA
  go_enter Tryd.func46, Tryd.ntmps46
  go_wp2_with fail
  refine KD.out.mono ?_
  rintro e w2 ⟨rfl, s2, g2⟩
  have S2 := keep s2
  have G2 := keep g2
  have V2 := keep (V1.out.gp g2 PZ.out H3.out)
  clear s2 g2 hW1
  go_wp2_with fail
  refine (LN.out _ S2.out V2.out).mono ?_
  rintro e w3 ⟨rfl, s3, g3⟩
  have X3 := keep ((X1.out.gp G2.out (by have := LT.out; omega)).gp g3 (by have := LT.out; omega))
  have S3 := keep s3
  have G3 := keep (((Gp.of B1.out).trans G2.out).trans g3)
  have V3 := keep (V2.out.gp g3 (Nat.le_trans PZ.out G2.out.size) H3.out)
  clear s3 g3
  go_wp2_with fail
  refine (CK.out _ S3.out V3.out).mono ?_
  intro e w4 hT
  obtain ⟨q0, q1, q2, q3, q4, q5, q6, rfl⟩ := hT.six
  have T4 := keep hT
  have X4 := keep (X3.out.gp hT.1 (by have := LT.out; omega))
  obtain ⟨d0, d1, d2, d3⟩ := X4.out.cells
  have f0 := X4.out.free 0
  have f1 := X4.out.free 1
  have f2 := X4.out.free 2
  have f3 := X4.out.free 3
  clear hT
  go_wp2
  (try simp only [Exit.inBlock, Exit.then])
  refine bodyPost_ret (res_rp2 rfl _ _ w.heap.size _ _ _ _ rfl (Box.four X4.out _ _ _ _)) rfl ?_
  exact told_up T4.out G3.out HN.out (Nat.le_refl _) X3.out.lt LT.out _ _ _ _
set_option maxHeartbeats 1000000 in
theorem reply_bulk (n p : Nat) (w : World) (wi : Int) (z : UInt8) (r s r' : List UInt8) (Z : Except Int (Rp.T (n + 1) × List UInt8)) (h : So w p (z :: r)) (hv : Vars w) (h3 : 3 ≤ p) (hk : Rp.kindF z = 4) (hm : r.length < 140737488355328) (hl : Rp.lineF r = .ok (s, r'))
    (CA : ∀ w1, So w1 p r' → Vars w1 → Calls Tryd.prog 61 #[.pointer (some ⟨p, 0, none⟩), .string (Rp.ofL s)] w1 (Told (n + 1) p w1 r'.length Z)) :
    Calls Tryd.prog 46 #[.pointer (some ⟨p, 0, none⟩), .int .i64 wi] w (Told (n + 1) p w (z :: r).length Z) := by
  obtain ⟨W1, hW1, X1, B1⟩ := rep_pre w
  have LT := keep h.lt
  have KD := keep (kind_ok W1 p z r (h.later B1.out) (by rw [hk]; decide) hm)
  rw [hk] at KD
  have V1 := keep (hv.below B1.out)
  have LN := keep (fun w1 h1 hv1 => (lineF_ok hl w1 p h1 hv1 hm).2.2)
  have PZ : Kept (p ≤ W1.heap.size) := keep (Nat.le_trans (Nat.le_of_lt LT.out) B1.out.size)
  have H3 := keep h3
  have CK := keep CA
  have HN : Kept (r'.length ≤ (z :: r).length) := keep (by have h2 := lineF_len hl; simp; omega)
  generalize (z :: r).length = len at *
  generalize Rp.ofL s = s' at *
  clear h hv hk hm h3 hl CA
  go_enter Tryd.func46, Tryd.ntmps46
  go_wp2_with fail
  refine KD.out.mono ?_
  rintro e w2 ⟨rfl, s2, g2⟩
  have S2 := keep s2
  have G2 := keep g2
  have V2 := keep (V1.out.gp g2 PZ.out H3.out)
  clear s2 g2 hW1
  go_wp2_with fail
  refine (LN.out _ S2.out V2.out).mono ?_
  rintro e w3 ⟨rfl, s3, g3⟩
  have X3 := keep ((X1.out.gp G2.out (by have := LT.out; omega)).gp g3 (by have := LT.out; omega))
  have S3 := keep s3
  have G3 := keep (((Gp.of B1.out).trans G2.out).trans g3)
  have V3 := keep (V2.out.gp g3 (Nat.le_trans PZ.out G2.out.size) H3.out)
  clear s3 g3
  go_wp2_with fail
  refine (CK.out _ S3.out V3.out).mono ?_
  intro e w4 hT
  obtain ⟨q0, q1, q2, q3, q4, q5, q6, rfl⟩ := hT.six
  have T4 := keep hT
  have X4 := keep (X3.out.gp hT.1 (by have := LT.out; omega))
  obtain ⟨d0, d1, d2, d3⟩ := X4.out.cells
  have f0 := X4.out.free 0
  have f1 := X4.out.free 1
  have f2 := X4.out.free 2
  have f3 := X4.out.free 3
  clear hT
  go_wp2
  (try simp only [Exit.inBlock, Exit.then])
  refine bodyPost_ret (res_rp2 rfl _ _ w.heap.size _ _ _ _ rfl (Box.four X4.out _ _ _ _)) rfl ?_
  exact told_up T4.out G3.out HN.out (Nat.le_refl _) X3.out.lt LT.out _ _ _ _
set_option maxHeartbeats 1000000 in
theorem reply_array (n p : Nat) (w : World) (wi : Int) (z : UInt8) (r s r' : List UInt8) (Z : Except Int (Rp.T (n + 1) × List UInt8)) (h : So w p (z :: r)) (hv : Vars w) (h3 : 3 ≤ p) (hk : Rp.kindF z = 6) (hm : r.length < 140737488355328) (hl : Rp.lineF r = .ok (s, r'))
    (CA : ∀ w1, So w1 p r' → Vars w1 → Calls Tryd.prog 62 #[.pointer (some ⟨p, 0, none⟩), .string (Rp.ofL s), .int .i64 wi] w1 (Told (n + 1) p w1 r'.length Z)) :
    Calls Tryd.prog 46 #[.pointer (some ⟨p, 0, none⟩), .int .i64 wi] w (Told (n + 1) p w (z :: r).length Z) := by
  obtain ⟨W1, hW1, X1, B1⟩ := rep_pre w
  have LT := keep h.lt
  have KD := keep (kind_ok W1 p z r (h.later B1.out) (by rw [hk]; decide) hm)
  rw [hk] at KD
  have V1 := keep (hv.below B1.out)
  have LN := keep (fun w1 h1 hv1 => (lineF_ok hl w1 p h1 hv1 hm).2.2)
  have PZ : Kept (p ≤ W1.heap.size) := keep (Nat.le_trans (Nat.le_of_lt LT.out) B1.out.size)
  have H3 := keep h3
  have CK := keep CA
  have HN : Kept (r'.length ≤ (z :: r).length) := keep (by have h2 := lineF_len hl; simp; omega)
  generalize (z :: r).length = len at *
  generalize Rp.ofL s = s' at *
  clear h hv hk hm h3 hl CA
  go_enter Tryd.func46, Tryd.ntmps46
  go_wp2_with fail
  refine KD.out.mono ?_
  rintro e w2 ⟨rfl, s2, g2⟩
  have S2 := keep s2
  have G2 := keep g2
  have V2 := keep (V1.out.gp g2 PZ.out H3.out)
  clear s2 g2 hW1
  go_wp2_with fail
  refine (LN.out _ S2.out V2.out).mono ?_
  rintro e w3 ⟨rfl, s3, g3⟩
  have X3 := keep ((X1.out.gp G2.out (by have := LT.out; omega)).gp g3 (by have := LT.out; omega))
  have S3 := keep s3
  have G3 := keep (((Gp.of B1.out).trans G2.out).trans g3)
  have V3 := keep (V2.out.gp g3 (Nat.le_trans PZ.out G2.out.size) H3.out)
  clear s3 g3
  go_wp2_with fail
  refine (CK.out _ S3.out V3.out).mono ?_
  intro e w4 hT
  obtain ⟨q0, q1, q2, q3, q4, q5, q6, rfl⟩ := hT.six
  have T4 := keep hT
  have X4 := keep (X3.out.gp hT.1 (by have := LT.out; omega))
  obtain ⟨d0, d1, d2, d3⟩ := X4.out.cells
  have f0 := X4.out.free 0
  have f1 := X4.out.free 1
  have f2 := X4.out.free 2
  have f3 := X4.out.free 3
  clear hT
  go_wp2
  (try simp only [Exit.inBlock, Exit.then])
  refine bodyPost_ret (res_rp2 rfl _ _ w.heap.size _ _ _ _ rfl (Box.four X4.out _ _ _ _)) rfl ?_
  exact told_up T4.out G3.out HN.out (Nat.le_refl _) X3.out.lt LT.out _ _ _ _
end Go.Proofs.YtoalnfkjpdgbiaaDoor

/-
  Contracts over this program: a reply is read, whatever the bytes, as dec says.
-/
namespace Go.Proofs.YtoalnfkjpdgbiaaDoor
open Go.RowKit
set_option linter.unusedVariables false
set_option maxHeartbeats 1000000 in
theorem reply_plain (n p : Nat) (w : World) (wi : Int) (z : UInt8) (r s r' : List UInt8) (h : So w p (z :: r)) (hv : Vars w) (h3 : 3 ≤ p) (hk : Rp.kindF z = 1 ∨ Rp.kindF z = 2) (hm : r.length < 4294967281) (hl : Rp.lineF r = .ok (s, r')) :
    Calls Tryd.prog 46 #[.pointer (some ⟨p, 0, none⟩), .int .i64 wi] w (Told (n + 1) p w (z :: r).length (.ok ((Rp.kindF z, Rp.ofL s, 0, []), r'))) := by
  obtain ⟨W1, hW1, X1, B1⟩ := rep_pre w
  have LT := keep h.lt
  have KD := keep (kind_ok W1 p z r (h.later B1.out) (by rcases hk with e | e <;> (rw [e]; decide)) (by omega))
  have V1 := keep (hv.below B1.out)
  have LN := keep (fun w1 h1 hv1 => (lineF_ok hl w1 p h1 hv1 (by omega)).2.2)
  have PZ : Kept (p ≤ W1.heap.size) := keep (Nat.le_trans (Nat.le_of_lt LT.out) B1.out.size)
  have H3 := keep h3
  have HN : Kept (r'.length ≤ (z :: r).length) := keep (by have h2 := lineF_len hl; simp; omega)
  have HS : Kept ((Rp.ofL s).size < 4294967281) := keep (by have h2 := lineF_len hl; rw [Rp.ofL_size]; omega)
  generalize (z :: r).length = len at *
  generalize Rp.ofL s = s' at *
  generalize Rp.kindF z = k at *
  rcases hk with rfl | rfl
  all_goals
    clear h hv hm h3 hl
    go_enter Tryd.func46, Tryd.ntmps46
    go_wp2_with fail
    refine KD.out.mono ?_
    rintro e w2 ⟨rfl, s2, g2⟩
    have S2 := keep s2
    have G2 := keep g2
    have V2 := keep (V1.out.gp g2 PZ.out H3.out)
    clear s2 g2 hW1
    go_wp2_with fail
    refine (LN.out _ S2.out V2.out).mono ?_
    rintro e w3 ⟨rfl, s3, g3⟩
    have X3 := keep ((X1.out.gp G2.out (by have := LT.out; omega)).gp g3 (by have := LT.out; omega))
    have S3 := keep s3
    have G3 := keep (((Gp.of B1.out).trans G2.out).trans g3)
    obtain ⟨d0, d1, d2, d3⟩ := X3.out.cells
    have f0 := X3.out.free 0
    have f1 := X3.out.free 1
    have f2 := X3.out.free 2
    have f3 := X3.out.free 3
    clear s3 g3
    go_wp2
    (try simp only [Exit.inBlock, Exit.then])
    refine bodyPost_ret (res_rp2 rfl _ _ w.heap.size _ _ _ _ rfl (Box.four X3.out _ _ _ _)) rfl ?_
    exact told_flat ⟨by decide, by decide⟩ ⟨by decide, by decide⟩ HS.out rfl (S3.out.four LT.out _ _ _ _) HN.out (Gp.four G3.out (Nat.le_refl _) _ _ _ _)
theorem kindF_of (z : UInt8) (h0 : Rp.kindF z ≠ 0) (h3 : Rp.kindF z ≠ 3) (h4 : Rp.kindF z ≠ 4) (h6 : Rp.kindF z ≠ 6) : Rp.kindF z = 1 ∨ Rp.kindF z = 2 := by
  unfold Rp.kindF at *
  by_cases e1 : z = 43
  · left; rw [if_pos e1]
  · by_cases e2 : z = 45
    · right; rw [if_neg e1, if_pos e2]
    · by_cases e3 : z = 58
      · exact absurd (by rw [if_neg e1, if_neg e2, if_pos e3]) h3
      · by_cases e4 : z = 36
        · exact absurd (by rw [if_neg e1, if_neg e2, if_neg e3, if_pos e4]) h4
        · by_cases e5 : z = 42
          · exact absurd (by rw [if_neg e1, if_neg e2, if_neg e3, if_neg e4, if_pos e5]) h6
          · exact absurd (by rw [if_neg e1, if_neg e2, if_neg e3, if_neg e4, if_neg e5]) h0
theorem rep_step (n p : Nat) (wi : Int) (D : Nat → List UInt8 → Except Int (List (Rp.T n) × List UInt8)) (h3 : 3 ≤ p)
    (AR : ∀ w s r, So w p r → Vars w → r.length ≤ 4294967280 → s.length ≤ maxLen → Calls Tryd.prog 62 #[.pointer (some ⟨p, 0, none⟩), .string (Rp.ofL s), .int .i64 wi] w (Told (n + 1) p w r.length (Rp.arrF D s r)))
    (w : World) (b : List UInt8) (h : So w p b) (hv : Vars w) (hb : b.length ≤ 4294967280) :
    Calls Tryd.prog 46 #[.pointer (some ⟨p, 0, none⟩), .int .i64 wi] w (Told (n + 1) p w b.length (Rp.decW D b)) := by
  match b, h, hb with
  | [], h, _ => exact reply_nil n p w wi h
  | z :: r, h, hb =>
    have hm : r.length < 4294967280 := by simp at hb; omega
    unfold Rp.decW
    dsimp only
    by_cases hk : Rp.kindF z = 0
    · rw [if_pos hk]
      exact reply_bad n p w wi z r h hk (by omega)
    · rw [if_neg hk]
      cases hl : Rp.lineF r with
      | error c => exact reply_line n p w wi z r c h hv h3 hk (by omega) hl
      | ok y =>
        obtain ⟨s, r'⟩ := y
        obtain ⟨l1, l2⟩ := lineF_len hl
        have hs : s.length ≤ maxLen := by unfold maxLen; omega
        dsimp only
        unfold Rp.lineK
        by_cases k3 : Rp.kindF z = 3
        · rw [if_pos k3]
          exact reply_int n p w wi z r s r' _ h hv h3 k3 (by omega) hl (fun w1 h1 _ => int_told n p w1 s r' h1 hs)
        · rw [if_neg k3]
          by_cases k4 : Rp.kindF z = 4
          · rw [if_pos k4]
            exact reply_bulk n p w wi z r s r' _ h hv h3 k4 (by omega) hl (fun w1 h1 _ => bulk_told n p w1 s r' h1 hs (by omega))
          · rw [if_neg k4]
            by_cases k6 : Rp.kindF z = 6
            · rw [if_pos k6]
              exact reply_array n p w wi z r s r' _ h hv h3 k6 (by omega) hl (fun w1 h1 hv1 => AR w1 s r' h1 hv1 (by omega) hs)
            · rw [if_neg k6]
              exact reply_plain n p w wi z r s r' h hv h3 (kindF_of z hk k3 k4 k6) (by omega) hl
theorem reply_any (p : Nat) (h3 : 3 ≤ p) : ∀ (n : Nat), n ≤ 8 → ∀ (w : World) (b : List UInt8), So w p b → Vars w → b.length ≤ 4294967280 →
    Calls Tryd.prog 46 #[.pointer (some ⟨p, 0, none⟩), .int .i64 (8 - (n : Int))] w (Told (n + 1) p w b.length (Rp.dec n b))
  | 0, _, w, b, h, hv, hb => rep_step 0 p _ _ h3 (fun w s r h hv hr hs => by
      unfold Rp.arrF
      by_cases h1 : s = [45, 49]
      · rw [if_pos h1, h1]
        exact (array_null w p _).mono fun e w' ⟨he, hb⟩ => told_flat ⟨by decide, by decide⟩ ⟨by decide, by decide⟩ (by decide) he (h.later hb) (Nat.le_refl _) (Gp.of hb)
      · rw [if_neg h1]
        cases h2 : Rp.cntF s with
        | error c => exact (array_err w p _ s c hs h1 h2).mono fun e w' ⟨he, hb⟩ => told_err h (cnt_err h2 w hs).1 he hb
        | ok m => exact (array_deep w p _ s m (by decide) hs h1 h2).mono fun e w' ⟨he, hb⟩ => told_err h (by decide) he hb) w b h hv hb
  | n + 1, hn, w, b, h, hv, hb => rep_step (n + 1) p _ _ h3 (fun w s r h hv hr hs => by
      by_cases h1 : s = [45, 49]
      · unfold Rp.arrF
        rw [if_pos h1, h1]
        exact (array_null w p _).mono fun e w' ⟨he, hb⟩ => told_flat ⟨by decide, by decide⟩ ⟨by decide, by decide⟩ (by decide) he (h.later hb) (Nat.le_refl _) (Gp.of hb)
      · cases h2 : Rp.cntF s with
        | error c =>
          unfold Rp.arrF
          rw [if_neg h1, h2]
          exact (array_err w p _ s c hs h1 h2).mono fun e w' ⟨he, hb⟩ => told_err h (cnt_err h2 w hs).1 he hb
        | ok m =>
          exact array_go n p w (8 - ((n + 1 : Nat) : Int)) 4294967280 (by omega) (by omega) h3 (fun w b h hv hb => by
            rw [show (8 : Int) - ((n + 1 : Nat) : Int) + 1 = 8 - (n : Int) by omega]
            exact reply_any p h3 n (by omega) w b h hv hb) s r m h hv hr hs h1 h2) w b h hv hb
end Go.Proofs.YtoalnfkjpdgbiaaDoor

namespace Go.Proofs.YtoalnfkjpdgbiaaDoor
open Go.RowKit
set_option linter.unusedVariables false
theorem results_cell_tmp2 {fn : Func} {p u v : Tmp} {ty : TypeId} (h : fn.results = #[.cell p ty, .tmp u, .tmp v]) (tmps : Array Value) (P : Program) (w : World) :
    (results fn tmps).run P w =
      ((asAddr (tmps.getD p undef)).run P w).andThen fun a w₁ => ((loadVar ty a).run P w₁).andThen fun x w₂ => .ok (.tuple #[x, tmps.getD u undef, tmps.getD v undef]) w₂ := by
  simp only [results, h]
  simp [Sem.run_bind, Result.andThen]
theorem res_rp3 {fn : Func} {p u v : Tmp} (h : fn.results = #[.cell p 25, .tmp u, .tmp v]) (tmps : Array Value) (w : World) (b : Nat) (a0 a1 a2 a3 : Value) (hp : tmps.getD p undef = .pointer (some ⟨b, 0, none⟩)) (hb : Box w b a0 a1 a2 a3) :
    (results fn tmps).run Tryd.prog w = .ok (.tuple #[.agg #[a0, a1, a2, a3], tmps.getD u undef, tmps.getD v undef]) w := by
  rw [results_cell_tmp2 h, hp]
  simp only [asAddr, Sem.run_pure, Result.andThen_ok, run_loadVar_row w b _ _ _ _ _ hb Tryd.underlying25 rfl size_rp]
theorem Gp.below {p B : Nat} {w w' : World} (h : Gp p w w') (hB : B ≤ p) (hz : B ≤ w.heap.size) : Below B w w' :=
  ⟨h.os, h.tape, h.output, h.size, fun k hk => h.block k (by omega) (fun e => by injection e; omega)⟩
/-- what Decode answers -/
def DecTold (w : World) (b : List UInt8) (e : Ending) (w' : World) : Prop :=
  Below w.heap.size w w' ∧ match Rp.dec 8 b with
  | .error c => e = .returned (.tuple #[nought, .int .i64 0, .int .i64 c])
  | .ok (t, x) => if 16777216 < b.length - x.length then e = .returned (.tuple #[nought, .int .i64 0, .int .i64 2])
    else ∃ cs, e = .returned (.tuple #[.agg cs.toArray, .int .i64 ((b.length - x.length : Nat) : Int), .int .i64 0]) ∧ Tel (fun k => w.heap.size ≤ k ∧ k < w'.heap.size) w' 9 cs t
/-- ahead of reply: a block for the answer, and the source -/
theorem dec_pre (w : World) (v : Value) (b : List UInt8) (h : Bs (· < w.heap.size) w v b) (hv : Vars w) (h3 : 3 ≤ w.heap.size) (hb : b.length ≤ 4294967280) :
    ∃ ao c W1 W2, v = .slice ao b.length c ∧ w.alloc (.cells #[.int .i64 0, .string ⟨#[]⟩, .int .i64 0, .slice none 0 0] 25) = W1 ∧ W1.alloc (.cells #[.slice ao b.length c] 63) = W2 ∧
      Kept (Box W2 w.heap.size (.int .i64 0) (.string ⟨#[]⟩) (.int .i64 0) (.slice none 0 0)) ∧ Kept (Below w.heap.size w W2) ∧ Kept (W1.heap.size = w.heap.size + 1) ∧ Kept (W2.heap.size = w.heap.size + 2) ∧
      Kept (Calls Tryd.prog 46 #[.pointer (some ⟨W1.heap.size, 0, none⟩), .int .i64 0] W2 (Told 9 W1.heap.size W2 b.length (Rp.dec 8 b))) := by
  obtain ⟨W1, hW1, X1, B1⟩ := rep_pre w
  have h' := h
  obtain ⟨ao, c, rfl, hc, hl⟩ := h'
  obtain ⟨W2, hW2⟩ : ∃ x, W1.alloc (.cells #[.slice ao b.length c] 63) = x := ⟨_, rfl⟩
  have b2 : Below W1.heap.size W1 W2 := hW2 ▸ (Below.refl _ _).alloc (Nat.le_refl _) _
  have b12 : Below w.heap.size w W2 := B1.out.trans (b2.mono B1.out.size)
  have z1 : W1.heap.size = w.heap.size + 1 := by rw [← hW1]; show (w.heap.push _).size = _; simp
  have z2 : W2.heap.size = W1.heap.size + 1 := by rw [← hW2]; show (W1.heap.push _).size = _; simp
  have so : So W2 W1.heap.size b := ⟨_, hW2 ▸ heap_alloc_new _ _, h.mono (fun k hk => by omega) (fun k hk => b12.block k hk)⟩
  refine ⟨ao, c, W1, W2, rfl, hW1, hW2, keep (X1.out.below b2 X1.out.lt), keep b12, keep z1, keep (by omega), keep ?_⟩
  have := reply_any W1.heap.size (by omega) 8 (Nat.le_refl _) W2 b so (hv.below b12) hb
  exact this
set_option maxHeartbeats 2000000 in
theorem Decode_err (w : World) (v : Value) (b : List UInt8) (c : Int) (h : Bs (· < w.heap.size) w v b) (hv : Vars w) (h3 : 3 ≤ w.heap.size) (hb : b.length ≤ 4294967280) (hd : Rp.dec 8 b = .error c) :
    Calls Tryd.prog 19 #[v] w fun e w' => e = .returned (.tuple #[nought, .int .i64 0, .int .i64 c]) ∧ Below w.heap.size w w' := by
  obtain ⟨ao, cc, W1, W2, rfl, hW1, hW2, X2, B2, Z1, Z2, CA⟩ := dec_pre w v b h hv h3 hb
  rw [hd] at CA
  generalize b.length = n at *
  clear h hv h3 hb hd
  go_enter Tryd.func19, Tryd.ntmps19
  go_wp2_with fail
  refine CA.out.mono ?_
  rintro e w3 ⟨g3, hc, he, x, s3, hx⟩
  obtain ⟨z1, zo, zn, zc, hz1⟩ : ∃ (z : ByteArray) (zo : Option Addr) (zn zc : Nat), e = .returned (.tuple #[.agg #[.int .i64 0, .string z, .int .i64 0, .slice zo zn zc], .int .i64 c]) := ⟨_, _, _, _, he⟩
  clear he
  subst hz1
  obtain ⟨W4, hW4⟩ : ∃ x, x = w3.alloc (.cells #[.int .i64 0, .string z1, .int .i64 0, .slice zo zn zc] 25) := ⟨_, rfl⟩
  have b4 : Below w3.heap.size w3 W4 := hW4 ▸ (Below.refl _ _).alloc (Nat.le_refl _) _
  have x4 : Box W4 w.heap.size _ _ _ _ := (X2.out.gp g3 (by have := Z1.out; omega)).below b4 (by have := Z2.out; have := g3.size; omega)
  have X4 := keep x4
  have B4 := keep ((B2.out.trans (g3.below (B := w.heap.size) (by have := Z1.out; omega) (by have := Z2.out; omega))).trans (b4.mono (by have := Z2.out; have := g3.size; omega)))
  obtain ⟨d0, d1, d2, d3⟩ := X4.out.cells
  have f0 := X4.out.free 0
  have f1 := X4.out.free 1
  have f2 := X4.out.free 2
  have f3 := X4.out.free 3
  obtain ⟨v5, k1, ao5, c5, rfl, _⟩ := s3.later b4
  have c0 : W4.cell? ⟨W1.heap.size, 0, none⟩ = some (.slice ao5 x.length c5) := by rw [cell_of_row _ _ _ _ _ _ k1]; rfl
  have hcq : (c == 0) = false := beq_eq_false_iff_ne.2 hc
  have hcn : (c != 0) = true := by simpa using hc
  have hW4' := hW4.symm
  generalize x.length = xl at *
  clear hW4 hW1 hW2 b4 x4 g3 s3 hx k1 hc CA
  go_wp2
  (try simp only [Exit.inBlock, Exit.then])
  refine bodyPost_ret (res_rp3 rfl _ _ w.heap.size _ _ _ _ rfl (Box.four X4.out _ _ _ _)) rfl ⟨rfl, Below.four B4.out (Nat.le_refl _) _ _ _ _⟩
set_option maxHeartbeats 2000000 in
theorem Decode_long (w : World) (v : Value) (b x : List UInt8) (t : Rp.T 9) (h : Bs (· < w.heap.size) w v b) (hv : Vars w) (h3 : 3 ≤ w.heap.size) (hb : b.length ≤ 4294967280) (hd : Rp.dec 8 b = .ok (t, x)) (hL : 16777216 < b.length - x.length) :
    Calls Tryd.prog 19 #[v] w fun e w' => e = .returned (.tuple #[nought, .int .i64 0, .int .i64 2]) ∧ Below w.heap.size w w' := by
  obtain ⟨ao, cc, W1, W2, rfl, hW1, hW2, X2, B2, Z1, Z2, CA⟩ := dec_pre w v b h hv h3 hb
  rw [hd] at CA
  obtain ⟨sz, hsz⟩ : ∃ sz, sz = b.length - x.length := ⟨_, rfl⟩
  rw [← hsz] at hL
  try rw [← hsz]
  generalize hn : b.length = n at *
  have HSZ := keep hsz
  have HL := keep hL
  have HB := keep hb
  clear h hv h3 hb hd hn hsz hL
  go_enter Tryd.func19, Tryd.ntmps19
  go_wp2_with fail
  refine CA.out.mono ?_
  rintro e w3 ⟨g3, ⟨cs, rfl, ht⟩, s3, hx⟩
  obtain ⟨q0, q1, q2, q3, q4, q5, rfl, _⟩ := ht.six
  obtain ⟨W4, hW4⟩ : ∃ x, x = w3.alloc (.cells #[.int .i64 q0, .string q1, .int .i64 q2, .slice q3 q4 q5] 25) := ⟨_, rfl⟩
  have b4 : Below w3.heap.size w3 W4 := hW4 ▸ (Below.refl _ _).alloc (Nat.le_refl _) _
  have x4 : Box W4 w.heap.size _ _ _ _ := (X2.out.gp g3 (by have := Z1.out; omega)).below b4 (by have := Z2.out; have := g3.size; omega)
  have X4 := keep x4
  have B4 := keep ((B2.out.trans (g3.below (B := w.heap.size) (by have := Z1.out; omega) (by have := Z2.out; omega))).trans (b4.mono (by have := Z2.out; have := g3.size; omega)))
  obtain ⟨d0, d1, d2, d3⟩ := X4.out.cells
  have f0 := X4.out.free 0
  have f1 := X4.out.free 1
  have f2 := X4.out.free 2
  have f3 := X4.out.free 3
  obtain ⟨v5, k1, ao5, c5, rfl, _⟩ := s3.later b4
  have c0 : W4.cell? ⟨W1.heap.size, 0, none⟩ = some (.slice ao5 x.length c5) := by rw [cell_of_row _ _ _ _ _ _ k1]; rfl
  have hW4' := hW4.symm
  have hsz := HSZ.out
  have hL := HL.out
  have hB := HB.out
  generalize x.length = xl at *
  have nw : wrap64 ((n : Int) - (xl : Int)) = (sz : Int) := by unfold wrap64; omega
  have nw2 : IntKind.i64.wrap ((n : Int) - (xl : Int)) = (sz : Int) := by rw [IntKind.wrap_i64]; omega
  have hlq : decide ((16777216 : Int) < (sz : Int)) = true := decide_eq_true (by omega)
  have hlz : (16777216 : Int) < (sz : Int) := by omega
  clear hW4 hW1 hW2 b4 x4 g3 s3 hx k1 ht CA hsz hL hB
  go_wp2
  (try simp only [Exit.inBlock, Exit.then])
  refine bodyPost_ret (res_rp3 rfl _ _ w.heap.size _ _ _ _ rfl (Box.four X4.out _ _ _ _)) rfl ⟨rfl, Below.four B4.out (Nat.le_refl _) _ _ _ _⟩
set_option maxHeartbeats 2000000 in
theorem Decode_ok (w : World) (v : Value) (b x : List UInt8) (t : Rp.T 9) (h : Bs (· < w.heap.size) w v b) (hv : Vars w) (h3 : 3 ≤ w.heap.size) (hb : b.length ≤ 4294967280) (hd : Rp.dec 8 b = .ok (t, x)) (hL : ¬ 16777216 < b.length - x.length) :
    Calls Tryd.prog 19 #[v] w fun e w' => (∃ cs, e = .returned (.tuple #[.agg cs.toArray, .int .i64 ((b.length - x.length : Nat) : Int), .int .i64 0]) ∧ Tel (fun k => w.heap.size ≤ k ∧ k < w'.heap.size) w' 9 cs t) ∧ Below w.heap.size w w' := by
  obtain ⟨ao, cc, W1, W2, rfl, hW1, hW2, X2, B2, Z1, Z2, CA⟩ := dec_pre w v b h hv h3 hb
  rw [hd] at CA
  obtain ⟨sz, hsz⟩ : ∃ sz, sz = b.length - x.length := ⟨_, rfl⟩
  rw [← hsz] at hL
  try rw [← hsz]
  generalize hn : b.length = n at *
  have HSZ := keep hsz
  have HL := keep hL
  have HB := keep hb
  clear h hv h3 hb hd hn hsz hL
  go_enter Tryd.func19, Tryd.ntmps19
  go_wp2_with fail
  refine CA.out.mono ?_
  rintro e w3 ⟨g3, ⟨cs, rfl, ht⟩, s3, hx⟩
  obtain ⟨q0, q1, q2, q3, q4, q5, rfl, _⟩ := ht.six
  obtain ⟨W4, hW4⟩ : ∃ x, x = w3.alloc (.cells #[.int .i64 q0, .string q1, .int .i64 q2, .slice q3 q4 q5] 25) := ⟨_, rfl⟩
  have b4 : Below w3.heap.size w3 W4 := hW4 ▸ (Below.refl _ _).alloc (Nat.le_refl _) _
  have x4 : Box W4 w.heap.size _ _ _ _ := (X2.out.gp g3 (by have := Z1.out; omega)).below b4 (by have := Z2.out; have := g3.size; omega)
  have X4 := keep x4
  have B4 := keep ((B2.out.trans (g3.below (B := w.heap.size) (by have := Z1.out; omega) (by have := Z2.out; omega))).trans (b4.mono (by have := Z2.out; have := g3.size; omega)))
  have fz : (set4 W4 w.heap.size (.int .i64 q0) (.string q1) (.int .i64 q2) (.slice q3 q4 q5)).heap.size = W4.heap.size := by simp [set4, World.setCell]
  have TF : Kept (Tel (fun k => w.heap.size ≤ k ∧ k < (set4 W4 w.heap.size (.int .i64 q0) (.string q1) (.int .i64 q2) (.slice q3 q4 q5)).heap.size) (set4 W4 w.heap.size (.int .i64 q0) (.string q1) (.int .i64 q2) (.slice q3 q4 q5)) 9 [.int .i64 q0, .string q1, .int .i64 q2, .slice q3 q4 q5] t) :=
    keep (Tel.mono (fun k hk => ⟨by have := Z2.out; omega, by rw [fz]; exact Nat.lt_of_lt_of_le hk.2 b4.size⟩) (fun k hk => (four_other (by have := Z2.out; omega) _ _ _ _).trans (b4.block k hk.2)) _ _ _ ht)
  obtain ⟨e0, e1, e2, e3⟩ := (show Box W4 w3.heap.size _ _ _ _ from hW4 ▸ Box.new w3 _ _ _ _).cells
  clear fz
  obtain ⟨d0, d1, d2, d3⟩ := X4.out.cells
  have f0 := X4.out.free 0
  have f1 := X4.out.free 1
  have f2 := X4.out.free 2
  have f3 := X4.out.free 3
  obtain ⟨v5, k1, ao5, c5, rfl, _⟩ := s3.later b4
  have c0 : W4.cell? ⟨W1.heap.size, 0, none⟩ = some (.slice ao5 x.length c5) := by rw [cell_of_row _ _ _ _ _ _ k1]; rfl
  have hW4' := hW4.symm
  have hsz := HSZ.out
  have hL := HL.out
  have hB := HB.out
  generalize x.length = xl at *
  have nw : wrap64 ((n : Int) - (xl : Int)) = (sz : Int) := by unfold wrap64; omega
  have nw2 : IntKind.i64.wrap ((n : Int) - (xl : Int)) = (sz : Int) := by rw [IntKind.wrap_i64]; omega
  have hlq : decide ((16777216 : Int) < (sz : Int)) = false := decide_eq_false (by omega)
  have hlz : ¬ (16777216 : Int) < (sz : Int) := by omega
  clear hW4 hW1 hW2 b4 x4 g3 s3 hx k1 ht CA hsz hL hB
  go_wp2
  (try simp only [Exit.inBlock, Exit.then])
  refine bodyPost_ret (res_rp3 rfl _ _ w.heap.size _ _ _ _ rfl (Box.four X4.out _ _ _ _)) rfl ⟨⟨[_, _, _, _], rfl, TF.out⟩, Below.four B4.out (Nat.le_refl _) _ _ _ _⟩
end Go.Proofs.YtoalnfkjpdgbiaaDoor
