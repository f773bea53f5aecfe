/-
  Plain mathematics on replies: what was written, broken off, is short.
-/
import Derived.Test.YtoalnfkjpdgbiaaDoorRpForm
/-
  Plain mathematics on replies: what was written is read again as it was, whatever stands behind it.
-/
namespace Go.Proofs.YtoalnfkjpdgbiaaDoor
set_option linter.unusedVariables false
namespace Rp
theorem lineF_fwd : ∀ (s x : List UInt8), clean s = true → lineF (s ++ 13 :: 10 :: x) = .ok (s, x)
  | [], x, _ => rfl
  | c :: s, x, h => by
    unfold clean at h
    rw [List.all_cons, Bool.and_eq_true] at h
    obtain ⟨h1, h2⟩ := h
    have c1 : c ≠ 13 ∧ c ≠ 10 := by simpa using h1
    have ih := lineF_fwd s x h2
    show lineF (c :: (s ++ 13 :: 10 :: x)) = _
    unfold lineF
    rw [if_neg c1.2, if_neg c1.1, ih]
theorem clean_dd (u : Nat) : clean (Lib.decDigits u) = true := by
  have h := Pl.dd_all u
  rw [List.all_eq_true] at h
  unfold clean
  rw [List.all_eq_true]
  intro c hc
  have hd := h c hc
  have n13 : c ≠ 13 := fun e => by subst e; exact absurd hd (by decide)
  have n10 : c ≠ 10 := fun e => by subst e; exact absurd hd (by decide)
  simp [n13, n10]
theorem clean_itoa (n : Int) : clean (Lib.itoa n) = true := by
  by_cases h : n < 0
  · rw [Pl.itoa_neg h]
    have := clean_dd n.natAbs
    unfold clean at this ⊢
    rw [List.all_cons, this]
    rfl
  · rw [Pl.itoa_pos h]; exact clean_dd _
theorem itoa_ne (m : Nat) (h : m ≤ 16777216) : Lib.itoa (m : Int) ≠ [45, 49] := fun e => by
  have b := (Pl.back (m : Int) (by omega) (by omega)).1
  rw [e] at b
  have : Pl.iv [45, 49] = -1 := by rfl
  omega
theorem cnt_fwd (m : Nat) (h : m ≤ 16777216) : cntF (Lib.itoa (m : Int)) = .ok m := by
  obtain ⟨b1, b2⟩ := Pl.back (m : Int) (by omega) (by omega)
  unfold cntF
  rw [b1, b2, if_pos ⟨rfl, by omega⟩, if_pos (by omega)]
  rfl
theorem empty_of {s : ByteArray} (h : s.size = 0) : s = .empty := by
  apply ByteArray.ext
  exact Array.eq_empty_of_size_eq_zero h
/-- every text, list and number within bounds -/
def Fits : (n : Nat) → T n → Prop
  | 0 => fun r => nomatch r
  | n + 1 => fun t => (tx t).size ≤ 16777216 ∧ (ls t).length ≤ 16777216 ∧ (-9223372036854775808 ≤ nm t ∧ nm t ≤ 9223372036854775807) ∧ ∀ u ∈ ls t, Fits n u
theorem back_step (n : Nat) (D : Nat → List UInt8 → Except Int (List (T n) × List UInt8))
    (hD : ∀ l x, (∀ u ∈ l, right n u = true ∧ deep n (n - 1) u = false ∧ Fits n u) → n ≠ 0 → D l.length (l.flatMap (enc n) ++ x) = .ok (l, x))
    (t : T (n + 1)) (x : List UInt8) (hr : right (n + 1) t = true) (hd : deep (n + 1) n t = false) (hf : Fits (n + 1) t) : decW D (enc (n + 1) t ++ x) = .ok (t, x) := by
  obtain ⟨k, s, i, l⟩ := t
  have hr' : (wellW k s i l && l.all (right n)) = true := hr
  rw [Bool.and_eq_true] at hr'
  obtain ⟨hw, ha⟩ := hr'
  have hd' : (k == 6 && n == 0 || l.any (deep n (n - 1))) = false := hd
  obtain ⟨f1, f2, f3, f4⟩ := hf
  have e1 : s.size ≤ 16777216 := f1
  have e2 : l.length ≤ 16777216 := f2
  have e3 : -9223372036854775808 ≤ i ∧ i ≤ 9223372036854775807 := f3
  have e4 : ∀ u ∈ l, Fits n u := f4
  clear f1 f2 f3 f4
  by_cases h1 : k = 1
  · subst h1
    have hw' : (i == 0 && l.isEmpty && clean (bytesOf s)) = true := hw
    simp only [Bool.and_eq_true, beq_iff_eq, List.isEmpty_iff] at hw'
    obtain ⟨⟨rfl, rfl⟩, hc⟩ := hw'
    have hl := lineF_fwd (bytesOf s) x hc
    show decW D (43 :: (bytesOf s ++ crlf) ++ x) = _
    rw [show (43 :: (bytesOf s ++ crlf) ++ x) = 43 :: (bytesOf s ++ 13 :: 10 :: x) by simp [crlf]]
    unfold decW
    dsimp only
    rw [if_neg (by decide), hl]
    rfl
  by_cases h2 : k = 2
  · subst h2
    have hw' : (i == 0 && l.isEmpty && clean (bytesOf s)) = true := hw
    simp only [Bool.and_eq_true, beq_iff_eq, List.isEmpty_iff] at hw'
    obtain ⟨⟨rfl, rfl⟩, hc⟩ := hw'
    have hl := lineF_fwd (bytesOf s) x hc
    show decW D (45 :: (bytesOf s ++ crlf) ++ x) = _
    rw [show (45 :: (bytesOf s ++ crlf) ++ x) = 45 :: (bytesOf s ++ 13 :: 10 :: x) by simp [crlf]]
    unfold decW
    dsimp only
    rw [if_neg (by decide), hl]
    rfl
  by_cases h3 : k = 3
  · subst h3
    have hw' : (s.size == 0 && l.isEmpty) = true := hw
    simp only [Bool.and_eq_true, beq_iff_eq, List.isEmpty_iff] at hw'
    obtain ⟨hs, rfl⟩ := hw'
    obtain rfl := empty_of hs
    have hl := lineF_fwd (Lib.itoa i) x (clean_itoa i)
    obtain ⟨b1, b2⟩ := Pl.back i e3.1 e3.2
    show decW D (58 :: (Lib.itoa i ++ crlf) ++ x) = _
    rw [show (58 :: (Lib.itoa i ++ crlf) ++ x) = 58 :: (Lib.itoa i ++ 13 :: 10 :: x) by simp [crlf]]
    unfold decW
    dsimp only
    rw [if_neg (by decide), hl]
    dsimp only
    unfold lineK
    rw [if_pos (by decide), if_pos b2, b1]
  by_cases h4 : k = 4
  · subst h4
    have hw' : (i == 0 && l.isEmpty) = true := hw
    simp only [Bool.and_eq_true, beq_iff_eq, List.isEmpty_iff] at hw'
    obtain ⟨rfl, rfl⟩ := hw'
    have hl := lineF_fwd (Lib.itoa (s.size : Int)) (bytesOf s ++ 13 :: 10 :: x) (clean_itoa _)
    show decW D (36 :: (Lib.itoa (s.size : Int) ++ crlf ++ bytesOf s ++ crlf) ++ x) = _
    rw [show (36 :: (Lib.itoa (s.size : Int) ++ crlf ++ bytesOf s ++ crlf) ++ x) = 36 :: (Lib.itoa (s.size : Int) ++ 13 :: 10 :: (bytesOf s ++ 13 :: 10 :: x)) by simp [crlf]]
    unfold decW
    dsimp only
    rw [if_neg (by decide), hl]
    dsimp only
    unfold lineK bulkF
    have hz := bytes_len s
    rw [if_neg (by decide), if_pos (by decide), if_neg (itoa_ne _ e1), cnt_fwd _ e1]
    dsimp only
    rw [if_neg (by simp [hz]), ← hz, List.drop_left, if_pos (show List.take 2 (13 :: 10 :: x) = crlf from rfl), List.take_left]
    rw [show (bytesOf s).length + 2 = (bytesOf s ++ [13, 10]).length by simp, show bytesOf s ++ 13 :: 10 :: x = (bytesOf s ++ [13, 10]) ++ x by simp, List.drop_left]
    rfl
  by_cases h5 : k = 5
  · subst h5
    have hw' : (s.size == 0 && i == 0 && l.isEmpty) = true := hw
    simp only [Bool.and_eq_true, beq_iff_eq, List.isEmpty_iff] at hw'
    obtain ⟨⟨hs, rfl⟩, rfl⟩ := hw'
    obtain rfl := empty_of hs
    rfl
  by_cases h7 : k = 7
  · subst h7
    have hw' : (s.size == 0 && i == 0 && l.isEmpty) = true := hw
    simp only [Bool.and_eq_true, beq_iff_eq, List.isEmpty_iff] at hw'
    obtain ⟨⟨hs, rfl⟩, rfl⟩ := hw'
    obtain rfl := empty_of hs
    rfl
  by_cases h6 : k = 6
  · subst h6
    have hw' : (s.size == 0 && i == 0) = true := hw
    simp only [Bool.and_eq_true, beq_iff_eq] at hw'
    obtain ⟨hs, rfl⟩ := hw'
    obtain rfl := empty_of hs
    have hn : n ≠ 0 := fun e => by subst e; simp at hd'
    have hdl : ∀ u ∈ l, deep n (n - 1) u = false := fun u hu => by
      have h := (Bool.or_eq_false_iff.1 hd').2
      rw [List.any_eq_false] at h
      simpa using h u hu
    rw [List.all_eq_true] at ha
    have hm := hD l x (fun u hu => ⟨ha u hu, hdl u hu, e4 u hu⟩) hn
    have hl := lineF_fwd (Lib.itoa (l.length : Int)) (l.flatMap (enc n) ++ x) (clean_itoa _)
    show decW D (42 :: (Lib.itoa (l.length : Int) ++ crlf ++ l.flatMap (enc n)) ++ x) = _
    rw [show (42 :: (Lib.itoa (l.length : Int) ++ crlf ++ l.flatMap (enc n)) ++ x) = 42 :: (Lib.itoa (l.length : Int) ++ 13 :: 10 :: (l.flatMap (enc n) ++ x)) by simp [crlf]]
    unfold decW
    dsimp only
    rw [if_neg (by decide), hl]
    dsimp only
    unfold lineK arrF
    rw [if_neg (by decide), if_neg (by decide), if_pos (by decide), if_neg (itoa_ne _ e2), cnt_fwd _ e2]
    dsimp only
    rw [hm]
  · exfalso
    unfold wellW at hw
    rw [if_neg (by simp [h1, h2]), if_neg h3, if_neg h4, if_neg h6, if_neg (by simp [h5, h7])] at hw
    cases hw
theorem many_back (n : Nat) (H : ∀ (t : T (n + 1)) (x : List UInt8), right (n + 1) t = true → deep (n + 1) n t = false → Fits (n + 1) t → dec n (enc (n + 1) t ++ x) = .ok (t, x)) :
    ∀ (l : List (T (n + 1))) (x : List UInt8), (∀ u ∈ l, right (n + 1) u = true ∧ deep (n + 1) n u = false ∧ Fits (n + 1) u) → many (dec n) l.length (l.flatMap (enc (n + 1)) ++ x) = .ok (l, x)
  | [], x, _ => rfl
  | t :: l, x, h => by
    obtain ⟨a1, a2, a3⟩ := h t List.mem_cons_self
    have i1 := H t (l.flatMap (enc (n + 1)) ++ x) a1 a2 a3
    have i2 := many_back n H l x (fun u hu => h u (List.mem_cons_of_mem _ hu))
    rw [List.flatMap_cons, List.append_assoc, List.length_cons]
    unfold many
    rw [i1]
    dsimp only
    rw [i2]
/-- what was written is read again -/
theorem back : ∀ (n : Nat) (t : T (n + 1)) (x : List UInt8), right (n + 1) t = true → deep (n + 1) n t = false → Fits (n + 1) t → dec n (enc (n + 1) t ++ x) = .ok (t, x)
  | 0, t, x, hr, hd, hf => back_step 0 _ (fun l x _ h => absurd rfl h) t x hr hd hf
  | n + 1, t, x, hr, hd, hf => back_step (n + 1) _ (fun l x h _ => many_back n (back n) l x h) t x hr hd hf
end Rp
end Go.Proofs.YtoalnfkjpdgbiaaDoor

namespace Go.Proofs.YtoalnfkjpdgbiaaDoor
set_option linter.unusedVariables false
namespace Rp
theorem line_cut : ∀ (s r y z : List UInt8), clean s = true → s ++ 13 :: 10 :: r = y ++ z → lineF y = .error 5 ∨ ∃ y2, lineF y = .ok (s, y2) ∧ r = y2 ++ z
  | [], r, [], z, _, _ => .inl rfl
  | [], r, [a], z, _, h => by
    injection h with h1 h2
    subst h1
    exact .inl rfl
  | [], r, a :: b :: y, z, _, h => by
    injection h with h1 h2
    injection h2 with h2 h3
    subst h1; subst h2
    exact .inr ⟨y, rfl, h3⟩
  | c :: s, r, [], z, _, _ => .inl rfl
  | c :: s, r, a :: y, z, hc, h => by
    injection h with h1 h2
    subst h1
    unfold clean at hc
    rw [List.all_cons, Bool.and_eq_true] at hc
    obtain ⟨k1, k2⟩ := hc
    have c1 : c ≠ 13 ∧ c ≠ 10 := by simpa using k1
    rcases line_cut s r y z k2 h2 with g | ⟨y2, g1, g2⟩
    · left
      unfold lineF
      rw [if_neg c1.2, if_neg c1.1, g]
    · right
      refine ⟨y2, ?_, g2⟩
      unfold lineF
      rw [if_neg c1.2, if_neg c1.1, g1]
theorem cut_step (n : Nat) (D : Nat → List UInt8 → Except Int (List (T n) × List UInt8))
    (hD : ∀ (l : List (T n)) (y z : List UInt8), (∀ u ∈ l, right n u = true ∧ deep n (n - 1) u = false ∧ Fits n u) → n ≠ 0 → z ≠ [] → l.flatMap (enc n) = y ++ z → D l.length y = .error 5)
    (t : T (n + 1)) (y z : List UInt8) (hr : right (n + 1) t = true) (hd : deep (n + 1) n t = false) (hf : Fits (n + 1) t) (hz : z ≠ []) (he : enc (n + 1) t = y ++ z) : decW D y = .error 5 := by
  obtain ⟨k, s, i, l⟩ := t
  have hr' : (wellW k s i l && l.all (right n)) = true := hr
  rw [Bool.and_eq_true] at hr'
  obtain ⟨hw, ha⟩ := hr'
  have hd' : (k == 6 && n == 0 || l.any (deep n (n - 1))) = false := hd
  obtain ⟨f1, f2, f3, f4⟩ := hf
  have e1 : s.size ≤ 16777216 := f1
  have e2 : l.length ≤ 16777216 := f2
  have e4 : ∀ u ∈ l, Fits n u := f4
  have he' : encW (enc n) k s i l = y ++ z := he
  clear f1 f2 f3 f4 he hr hd
  revert he'
  match y with
  | [] => intro _; rfl
  | c :: y =>
    intro he'
    have flat : ∀ (a : UInt8) (s2 : List UInt8), kindF a ≠ 0 → clean s2 = true → a :: (s2 ++ crlf) = (c :: y) ++ z → decW D (c :: y) = .error 5 := fun a s2 hk hc h => by
      injection h with h1 h2
      subst h1
      unfold decW
      dsimp only
      rw [if_neg hk]
      rcases line_cut s2 [] y z hc h2 with g | ⟨y2, _, g2⟩
      · rw [g]
      · exact absurd (List.append_eq_nil_iff.1 g2.symm).2 hz
    unfold encW at he'
    by_cases h1 : k = 1
    · rw [if_pos h1] at he'
      subst h1
      have hw' : (i == 0 && l.isEmpty && clean (bytesOf s)) = true := hw
      exact flat 43 _ (by decide) (Bool.and_eq_true _ _ ▸ hw' |>.2) he'
    by_cases h2 : k = 2
    · rw [if_neg h1, if_pos h2] at he'
      subst h2
      have hw' : (i == 0 && l.isEmpty && clean (bytesOf s)) = true := hw
      exact flat 45 _ (by decide) (Bool.and_eq_true _ _ ▸ hw' |>.2) he'
    by_cases h3 : k = 3
    · rw [if_neg h1, if_neg h2, if_pos h3] at he'
      exact flat 58 _ (by decide) (clean_itoa i) he'
    by_cases h4 : k = 4
    · rw [if_neg h1, if_neg h2, if_neg h3, if_pos h4] at he'
      rw [show (36 :: (Lib.itoa (s.size : Int) ++ crlf ++ bytesOf s ++ crlf)) = 36 :: (Lib.itoa (s.size : Int) ++ 13 :: 10 :: (bytesOf s ++ crlf)) by simp [crlf]] at he'
      injection he' with g1 g2
      subst g1
      unfold decW
      dsimp only
      rw [if_neg (by decide)]
      rcases line_cut _ _ y z (clean_itoa _) g2 with g | ⟨y2, g, q⟩
      · rw [g]
      · rw [g]
        dsimp only
        unfold lineK bulkF
        rw [if_neg (by decide), if_pos (by decide), if_neg (itoa_ne _ e1), cnt_fwd _ e1]
        dsimp only
        have hl := congrArg List.length q
        have hzl : 0 < z.length := List.length_pos_iff.2 hz
        simp [crlf, bytes_len] at hl
        rw [if_pos (by omega)]
    by_cases h5 : k = 5
    · rw [if_neg h1, if_neg h2, if_neg h3, if_neg h4, if_pos h5] at he'
      exact flat 36 [45, 49] (by decide) (by decide) he'
    by_cases h7 : k = 7
    · rw [if_neg h1, if_neg h2, if_neg h3, if_neg h4, if_neg h5, if_pos h7] at he'
      exact flat 42 [45, 49] (by decide) (by decide) he'
    by_cases h6 : k = 6
    · rw [if_neg h1, if_neg h2, if_neg h3, if_neg h4, if_neg h5, if_neg h7] at he'
      subst h6
      have hn : n ≠ 0 := fun e => by subst e; simp at hd'
      have hdl : ∀ u ∈ l, deep n (n - 1) u = false := fun u hu => by
        have h := (Bool.or_eq_false_iff.1 hd').2
        rw [List.any_eq_false] at h
        simpa using h u hu
      rw [List.all_eq_true] at ha
      rw [show (42 :: (Lib.itoa (l.length : Int) ++ crlf ++ l.flatMap (enc n))) = 42 :: (Lib.itoa (l.length : Int) ++ 13 :: 10 :: l.flatMap (enc n)) by simp [crlf]] at he'
      injection he' with g1 g2
      subst g1
      unfold decW
      dsimp only
      rw [if_neg (by decide)]
      rcases line_cut _ _ y z (clean_itoa _) g2 with g | ⟨y2, g, q⟩
      · rw [g]
      · rw [g]
        dsimp only
        unfold lineK arrF
        rw [if_neg (by decide), if_neg (by decide), if_pos (by decide), if_neg (itoa_ne _ e2), cnt_fwd _ e2]
        dsimp only
        rw [hD l y2 z (fun u hu => ⟨ha u hu, hdl u hu, e4 u hu⟩) hn hz q]
    · exfalso
      unfold wellW at hw
      rw [if_neg (by simp [h1, h2]), if_neg h3, if_neg h4, if_neg h6, if_neg (by simp [h5, h7])] at hw
      cases hw
theorem many_cut (n : Nat) (H : ∀ (t : T (n + 1)) (y z : List UInt8), right (n + 1) t = true → deep (n + 1) n t = false → Fits (n + 1) t → z ≠ [] → enc (n + 1) t = y ++ z → dec n y = .error 5) :
    ∀ (l : List (T (n + 1))) (y z : List UInt8), (∀ u ∈ l, right (n + 1) u = true ∧ deep (n + 1) n u = false ∧ Fits (n + 1) u) → z ≠ [] → l.flatMap (enc (n + 1)) = y ++ z → many (dec n) l.length y = .error 5
  | [], y, z, _, hz, h => absurd (List.append_eq_nil_iff.1 h.symm).2 hz
  | t :: l, y, z, hu, hz, h => by
    obtain ⟨a1, a2, a3⟩ := hu t List.mem_cons_self
    rw [List.flatMap_cons] at h
    rw [List.length_cons]
    unfold many
    rcases List.append_eq_append_iff.1 h with ⟨y2, g1, g2⟩ | ⟨z2, g1, g2⟩
    · rw [g1, back n t y2 a1 a2 a3]
      dsimp only
      rw [many_cut n H l y2 z (fun u h => hu u (List.mem_cons_of_mem _ h)) hz g2]
    · by_cases e : z2 = []
      · subst e
        rw [List.append_nil] at g1
        rw [List.nil_append] at g2
        have := back n t [] a1 a2 a3
        rw [List.append_nil] at this
        rw [← g1, this]
        dsimp only
        rw [many_cut n H l [] z (fun u h => hu u (List.mem_cons_of_mem _ h)) hz (by rw [List.nil_append]; exact g2.symm)]
      · rw [H t y z2 a1 a2 a3 e g1]
/-- what was written, broken off, is short -/
theorem cut : ∀ (n : Nat) (t : T (n + 1)) (y z : List UInt8), right (n + 1) t = true → deep (n + 1) n t = false → Fits (n + 1) t → z ≠ [] → enc (n + 1) t = y ++ z → dec n y = .error 5
  | 0, t, y, z, hr, hd, hf, hz, he => cut_step 0 _ (fun l y z _ h => absurd rfl h) t y z hr hd hf hz he
  | n + 1, t, y, z, hr, hd, hf, hz, he => cut_step (n + 1) _ (fun l y z h _ => many_cut n (cut n) l y z h) t y z hr hd hf hz he
end Rp
end Go.Proofs.YtoalnfkjpdgbiaaDoor
