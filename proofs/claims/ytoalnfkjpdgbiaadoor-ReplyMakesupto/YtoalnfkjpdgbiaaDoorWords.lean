/-
  Plain mathematics on words of digits, with no program in sight.
-/
import Derived.WalkKit
namespace Go.Proofs.YtoalnfkjpdgbiaaDoor
/-- a fact kept out of the walk's sight -/
def Kept (p : Prop) : Prop := p
theorem keep {p : Prop} (h : p) : Kept p := h
theorem Kept.out {p : Prop} (h : Kept p) : p := h
namespace Pl
def isD (c : UInt8) : Bool := decide (48 ≤ c.toNat ∧ c.toNat ≤ 57)
def val (l : List UInt8) : Nat := l.foldl (fun n c => 10 * n + (c.toNat - 48)) 0
theorem val_nil : val [] = 0 := rfl
theorem val_snoc (l : List UInt8) (c : UInt8) : val (l ++ [c]) = 10 * val l + (c.toNat - 48) := by
  unfold val; rw [List.foldl_append]; rfl
theorem val_app_le (l m : List UInt8) : val l ≤ val (l ++ m) := by
  induction m generalizing l with
  | nil => simp
  | cons c m ih =>
    have h := ih (l ++ [c])
    rw [val_snoc] at h
    have e : l ++ [c] ++ m = l ++ c :: m := by simp
    rw [e] at h
    omega
theorem val_take_le (l : List UInt8) (k : Nat) : val (l.take k) ≤ val l := by
  have h := val_app_le (l.take k) (l.drop k)
  rwa [List.take_append_drop] at h
theorem val_lt_pow (l : List UInt8) (h : l.all isD = true) : val l < 10 ^ l.length := by
  suffices H : ∀ n (m : List UInt8), m.length = n → m.all isD = true → val m < 10 ^ n from H _ l rfl h
  intro n
  induction n with
  | zero => intro m hm _; have : m = [] := List.length_eq_zero_iff.1 hm; subst this; simp [val]
  | succ n ih =>
    intro m hm ha
    have hne : m ≠ [] := by intro e; subst e; simp at hm
    have e := List.dropLast_concat_getLast hne
    rw [← e] at ha ⊢
    rw [List.all_append] at ha
    simp only [Bool.and_eq_true, List.all_cons, List.all_nil, Bool.and_true] at ha
    have h1 := ih m.dropLast (by simp [hm]) ha.1
    have h2 := ha.2
    unfold isD at h2
    rw [val_snoc, Nat.pow_succ]
    have h3 := of_decide_eq_true h2
    omega
theorem val_head (c : UInt8) (l : List UInt8) : val (c :: l) = (c.toNat - 48) * 10 ^ l.length + val l := by
  suffices H : ∀ n (m : List UInt8), m.length = n → val (c :: m) = (c.toNat - 48) * 10 ^ n + val m from H _ l rfl
  intro n
  induction n with
  | zero => intro m hm; have : m = [] := List.length_eq_zero_iff.1 hm; subst this; simp [val]
  | succ n ih =>
    intro m hm
    have hne : m ≠ [] := by intro e; subst e; simp at hm
    have e := List.dropLast_concat_getLast hne
    rw [← e, ← List.cons_append, val_snoc, val_snoc, ih m.dropLast (by simp [hm]), Nat.pow_succ]
    rw [Nat.mul_add, Nat.mul_left_comm, Nat.mul_comm 10 (10 ^ n)]
    omega
/-- the word is written as numbers are: not empty, at most m long, no nought ahead -/
def form (m : Nat) (l : List UInt8) : Bool := decide (l.length ≠ 0 ∧ l.length ≤ m ∧ (l.head? ≠ some 48 ∨ l.length = 1))
def word (m : Nat) (l : List UInt8) : Bool := form m l && l.all isD
theorem word_all {m : Nat} {l : List UInt8} (h : word m l = true) : l.all isD = true := by
  unfold word at h; rw [Bool.and_eq_true] at h; exact h.2
theorem word_form {m : Nat} {l : List UInt8} (h : word m l = true) : l.length ≠ 0 ∧ l.length ≤ m ∧ (l.head? ≠ some 48 ∨ l.length = 1) := by
  unfold word at h; rw [Bool.and_eq_true] at h; exact of_decide_eq_true h.1
/-- a word of 20 digits is at least ten to the 19 -/
theorem val_long {l : List UInt8} (h : word 20 l = true) (g : word 19 l = false) : 10000000000000000000 ≤ val l := by
  have hf := word_form h
  have ha := word_all h
  have hl : l.length = 20 := by
    apply Decidable.byContradiction
    intro hn
    have : word 19 l = true := by
      unfold word form
      rw [ha, Bool.and_true]
      exact decide_eq_true ⟨hf.1, by omega, hf.2.2⟩
    rw [this] at g; cases g
  match l, hl, ha, hf with
  | c :: r, hl, ha, hf =>
    rw [val_head]
    have hr : r.length = 19 := by simpa using hl
    rw [hr]
    have hc : c ≠ 48 := by
      rcases hf.2.2 with h | h
      · simpa using h
      · simp at h; rw [h] at hr; simp at hr
    have hd : isD c = true := by simp only [List.all_cons, Bool.and_eq_true] at ha; exact ha.1
    have hd' := of_decide_eq_true hd
    have hn : c.toNat ≠ 48 := by
      intro e; apply hc
      exact UInt8.toNat_inj.1 (by rw [e]; rfl)
    have p : (10 : Nat) ^ 19 = 10000000000000000000 := by decide +kernel
    rw [p]
    have : 1 * 10000000000000000000 ≤ (c.toNat - 48) * 10000000000000000000 := Nat.mul_le_mul_right _ (by omega)
    rw [Nat.one_mul] at this
    exact Nat.le_trans this (Nat.le_add_right _ _)
theorem word_20 {l : List UInt8} (h : word 19 l = true) : word 20 l = true := by
  have hf := word_form h
  unfold word form
  rw [word_all h, Bool.and_true]
  exact decide_eq_true ⟨hf.1, by omega, hf.2.2⟩
def uok (l : List UInt8) : Bool := word 20 l && decide (val l < 18446744073709551616)
def uv (l : List UInt8) : Int := if uok l then (val l : Int) else 0
def uc (l : List UInt8) : Int := if uok l then 0 else 10
theorem u_yes {l : List UInt8} (h : word 20 l = true) (g : val l < 18446744073709551616) : uv l = (val l : Int) ∧ uc l = 0 := by
  have : uok l = true := by unfold uok; rw [h, Bool.true_and]; exact decide_eq_true g
  unfold uv uc; rw [this]; exact ⟨rfl, rfl⟩
theorem u_no1 {l : List UInt8} (h : word 20 l = false) : uv l = 0 ∧ uc l = 10 := by
  have : uok l = false := by unfold uok; rw [h, Bool.false_and]
  unfold uv uc; rw [this]; exact ⟨rfl, rfl⟩
theorem u_no2 {l : List UInt8} (g : ¬ val l < 18446744073709551616) : uv l = 0 ∧ uc l = 10 := by
  have : uok l = false := by unfold uok; rw [decide_eq_false g, Bool.and_false]
  unfold uv uc; rw [this]; exact ⟨rfl, rfl⟩
theorem not_word_form {m : Nat} {l : List UInt8} (h : form m l = false) : word m l = false := by
  unfold word; rw [h, Bool.false_and]
theorem not_word_all {m : Nat} {l : List UInt8} (h : l.all isD = false) : word m l = false := by
  unfold word; rw [h, Bool.and_false]
def neg (l : List UInt8) : Bool := l.head? == some 45
def body (l : List UInt8) : List UInt8 := if neg l then l.tail else l
def iok (l : List UInt8) : Bool := word 20 (body l) && (if neg l then decide (0 < val (body l) ∧ val (body l) ≤ 9223372036854775808) else decide (val (body l) < 9223372036854775808))
def iv (l : List UInt8) : Int := if iok l then (if neg l then - (val (body l) : Int) else (val (body l) : Int)) else 0
def ic (l : List UInt8) : Int := if iok l then 0 else 10
theorem i_neg {l : List UInt8} (hn : neg l = true) (h : word 20 (body l) = true) (g1 : 0 < val (body l)) (g2 : val (body l) ≤ 9223372036854775808) : iv l = - (val (body l) : Int) ∧ ic l = 0 := by
  have : iok l = true := by unfold iok; rw [h, hn, Bool.true_and, if_pos rfl]; exact decide_eq_true ⟨g1, g2⟩
  unfold iv ic; rw [this, hn]; exact ⟨rfl, rfl⟩
theorem i_pos {l : List UInt8} (hn : neg l = false) (h : word 20 (body l) = true) (g : val (body l) < 9223372036854775808) : iv l = (val (body l) : Int) ∧ ic l = 0 := by
  have : iok l = true := by unfold iok; rw [h, hn, Bool.true_and, if_neg (by simp)]; exact decide_eq_true g
  unfold iv ic; rw [this, hn]; exact ⟨rfl, rfl⟩
theorem i_no {l : List UInt8} (h : iok l = false) : iv l = 0 ∧ ic l = 10 := by
  unfold iv ic; rw [h]; exact ⟨rfl, rfl⟩
theorem i_no1 {l : List UInt8} (h : word 20 (body l) = false) : iv l = 0 ∧ ic l = 10 :=
  i_no (by unfold iok; rw [h, Bool.false_and])
theorem i_no2 {l : List UInt8} (hn : neg l = true) (g : ¬ (0 < val (body l) ∧ val (body l) ≤ 9223372036854775808)) : iv l = 0 ∧ ic l = 10 :=
  i_no (by unfold iok; rw [hn, if_pos rfl, decide_eq_false g, Bool.and_false])
theorem i_no3 {l : List UInt8} (hn : neg l = false) (g : ¬ val (body l) < 9223372036854775808) : iv l = 0 ∧ ic l = 10 :=
  i_no (by unfold iok; rw [hn, if_neg (by simp), decide_eq_false g, Bool.and_false])
theorem take_snoc (s : ByteArray) (k : Nat) (h : k < s.size) : s.data.toList.take (k + 1) = s.data.toList.take k ++ [s[k]] := by
  rw [List.take_succ_eq_append_getElem (by simpa using h)]; rfl
theorem take_all (s : ByteArray) (k : Nat) (h : s.size ≤ k) : s.data.toList.take k = s.data.toList :=
  List.take_of_length_le (by simpa using h)
theorem all_no (s : ByteArray) (k : Nat) (h : k < s.size) (g : isD s[k] = false) : s.data.toList.all isD = false := by
  rw [List.all_eq_false]
  refine ⟨s[k], ?_, by rw [g]; simp⟩
  exact Array.mem_toList_iff.2 (Array.getElem_mem (xs := s.data) h)
theorem len (s : ByteArray) : s.data.toList.length = s.size := Array.length_toList
theorem head (s : ByteArray) (h : 0 < s.size) : s.data.toList.head? = some s[0] := by
  rw [List.head?_eq_getElem?, List.getElem?_eq_getElem (by rw [len]; exact h)]; rfl
theorem form_yes (s : ByteArray) (m : Nat) (h0 : 0 < s.size) (h1 : s.size ≤ m) (h2 : ¬ (s[0].toNat : Int) = 48) : form m s.data.toList = true := by
  refine decide_eq_true ⟨by rw [len]; omega, by rw [len]; omega, .inl ?_⟩
  rw [head s h0]
  intro e
  apply h2
  have : s[0] = 48 := Option.some.inj e
  rw [this]; rfl
theorem form_one (s : ByteArray) (m : Nat) (h0 : s.size = 1) (h1 : 1 ≤ m) : form m s.data.toList = true :=
  decide_eq_true ⟨by rw [len]; omega, by rw [len]; omega, .inr (by rw [len]; omega)⟩
theorem form_no0 (s : ByteArray) (m : Nat) (h : s.size = 0) : form m s.data.toList = false :=
  decide_eq_false (by rw [len]; omega)
theorem form_noL (s : ByteArray) (m : Nat) (h : m < s.size) : form m s.data.toList = false :=
  decide_eq_false (by rw [len]; omega)
theorem form_noN (s : ByteArray) (m : Nat) (h0 : 0 < s.size) (h1 : s.size ≠ 1) (h2 : (s[0].toNat : Int) = 48) : form m s.data.toList = false := by
  refine decide_eq_false ?_
  rintro ⟨_, _, h | h⟩
  · rw [head s h0] at h
    apply h
    have e : s[0] = 48 := UInt8.toNat_inj.1 (by have : s[0].toNat = 48 := by omega
                                                rw [this]; rfl)
    rw [e]
  · rw [len] at h; exact h1 h
theorem dig_yes {c : UInt8} (h1 : 48 ≤ (c.toNat : Int)) (h2 : (c.toNat : Int) ≤ 57) : isD c = true := decide_eq_true (by omega)
theorem dig_no1 {c : UInt8} (h : ¬ 48 ≤ (c.toNat : Int)) : isD c = false := decide_eq_false (by omega)
theorem dig_no2 {c : UInt8} (h : ¬ (c.toNat : Int) ≤ 57) : isD c = false := decide_eq_false (by omega)
theorem all_step (s : ByteArray) (k : Nat) (h : k < s.size) (ha : (s.data.toList.take k).all isD = true) (hd : isD s[k] = true) : (s.data.toList.take (k + 1)).all isD = true := by
  rw [take_snoc s k h, List.all_append, ha]; simp [hd]
theorem val_step (s : ByteArray) (k : Nat) (h : k < s.size) (v : Nat) (hx : val (s.data.toList.take k) = v) : val (s.data.toList.take (k + 1)) = 10 * v + (s[k].toNat - 48) := by
  rw [take_snoc s k h, val_snoc, hx]
theorem u_step (s : ByteArray) (k : Nat) (h : k < s.size) (v : Nat) (hx : val (s.data.toList.take k) = v) (h1 : 48 ≤ (s[k].toNat : Int)) (h2 : (s[k].toNat : Int) ≤ 57) (h3 : (v : Int) ≤ (18446744073709551615 - ((s[k].toNat : Int) - 48)) / 10) :
    (v : Int) * 10 + ((s[k].toNat : Int) - 48) = ((val (s.data.toList.take (k + 1)) : Nat) : Int) ∧ val (s.data.toList.take (k + 1)) < 18446744073709551616 := by
  rw [val_step s k h v hx]
  generalize s[k].toNat = c at *
  omega
theorem u_over (s : ByteArray) (k : Nat) (h : k < s.size) (v : Nat) (hx : val (s.data.toList.take k) = v) (h1 : 48 ≤ (s[k].toNat : Int)) (h2 : (s[k].toNat : Int) ≤ 57) (h3 : ¬ (v : Int) ≤ (18446744073709551615 - ((s[k].toNat : Int) - 48)) / 10) :
    ¬ val s.data.toList < 18446744073709551616 := by
  have h4 := val_take_le s.data.toList (k + 1)
  rw [val_step s k h v hx] at h4
  generalize s[k].toNat = c at *
  omega
def hi (m : Nat) (l : List UInt8) : Int := if word m l then ((val l / 1000000000000 : Nat) : Int) else 0
def lo (m : Nat) (l : List UInt8) : Int := if word m l then ((val l % 1000000000000 : Nat) : Int) else 0
theorem half_no {m : Nat} {l : List UInt8} (h : word m l = false) : hi m l = 0 ∧ lo m l = 0 := by
  unfold hi lo; rw [h]; exact ⟨rfl, rfl⟩
theorem half_yes {m : Nat} {l : List UInt8} {a b : Nat} (h : word m l = true) (hv : val l = a * 1000000000000 + b) (hb : b < 1000000000000) : hi m l = a ∧ lo m l = b := by
  unfold hi lo; rw [h, if_pos rfl, if_pos rfl, hv]; omega
theorem val_take_bd (s : ByteArray) (k : Nat) (hs : s.size ≤ 20) (ha : (s.data.toList.take k).all isD = true) : val (s.data.toList.take k) < 100000000000000000000 := by
  have h := val_lt_pow _ ha
  have hl : (s.data.toList.take k).length ≤ 20 := by rw [List.length_take, len]; omega
  have h2 : 10 ^ (s.data.toList.take k).length ≤ 10 ^ 20 := Nat.pow_le_pow_right (by omega) hl
  have p : (10 : Nat) ^ 20 = 100000000000000000000 := by decide +kernel
  rw [p] at h2
  exact Nat.lt_of_lt_of_le h h2
theorem half_step (s : ByteArray) (k : Nat) (h : k < s.size) (a b : Nat) (hx : val (s.data.toList.take k) = a * 1000000000000 + b) (h1 : 48 ≤ (s[k].toNat : Int)) :
    ∃ a' b' : Nat, ((10 : Int) * (a : Int) + (10 * (b : Int) + ((s[k].toNat : Int) - 48)) / 1000000000000) = (a' : Int) ∧ (10 * (b : Int) + ((s[k].toNat : Int) - 48)) % 1000000000000 = (b' : Int) ∧ val (s.data.toList.take (k + 1)) = a' * 1000000000000 + b' ∧ b' < 1000000000000 := by
  have hv := val_step s k h _ hx
  rw [hv]
  generalize s[k].toNat = c at *
  refine ⟨10 * a + (10 * b + (c - 48)) / 1000000000000, (10 * b + (c - 48)) % 1000000000000, ?_, ?_, ?_, ?_⟩ <;> omega
def abv (a b c d : Nat) : Bool := decide (c < a ∨ (a = c ∧ d < b))
theorem abv_iff (v a b c d : Nat) (hv : v = a * 1000000000000 + b) (hb : b < 1000000000000) (hd : d < 1000000000000) : abv a b c d = decide (c * 1000000000000 + d < v) := by
  unfold abv
  rw [decide_eq_decide]
  omega
theorem nought {s : ByteArray} (h : s.data.toList = [48]) (m : Nat) (hm : 1 ≤ m) : word m s.data.toList = true ∧ val s.data.toList = 0 := by
  rw [h]
  refine ⟨?_, rfl⟩
  unfold word form
  rw [Bool.and_eq_true]
  exact ⟨decide_eq_true ⟨by simp, by simpa using hm, .inr rfl⟩, by decide⟩
theorem not_nought {s : ByteArray} (h : s.data.toList ≠ [48]) (h0 : 0 < s.size) (h2 : (s[0].toNat : Int) = 48) : s.size ≠ 1 := by
  intro e
  apply h
  have e2 : s[0] = 48 := UInt8.toNat_inj.1 (by have : s[0].toNat = 48 := by omega
                                               rw [this]; rfl)
  have hh := head s h0
  have hl := len s
  rw [e] at hl
  match hd : s.data.toList, hl, hh with
  | [c], _, hh =>
    have : c = s[0] := Option.some.inj hh
    rw [this, e2]
theorem word_zero {m : Nat} {l : List UInt8} (h : word m l = true) (hv : val l = 0) : l = [48] := by
  have hf := word_form h
  have ha := word_all h
  match l, ha, hf, hv with
  | [], _, hf, _ => exact absurd rfl hf.1
  | c :: r, ha, hf, hv =>
    have hd : isD c = true := by simp only [List.all_cons, Bool.and_eq_true] at ha; exact ha.1
    have hd' := of_decide_eq_true hd
    rw [val_head] at hv
    have h0 : (c.toNat - 48) * 10 ^ r.length = 0 := by omega
    have hc : c.toNat - 48 = 0 := by
      rcases Nat.mul_eq_zero.1 h0 with h | h
      · exact h
      · have := Nat.pow_pos (n := r.length) (show 0 < 10 by omega); omega
    have e : c = 48 := UInt8.toNat_inj.1 (by have : c.toNat = 48 := by omega
                                             rw [this]; rfl)
    subst e
    rcases hf.2.2 with h | h
    · exact absurd rfl h
    · have : r = [] := List.length_eq_zero_iff.1 (by simpa using h)
      rw [this]
theorem halves {m : Nat} {l : List UInt8} (h : word m l = true) : hi m l = ((val l / 1000000000000 : Nat) : Int) ∧ lo m l = ((val l % 1000000000000 : Nat) : Int) :=
  half_yes h (by omega) (by omega)
theorem neg_at (s : ByteArray) (h : 0 < s.size) : neg s.data.toList = ((s[0].toNat : Int) == 45) := by
  unfold neg
  rw [head s h]
  by_cases e : s[0].toNat = 45
  · have e2 : s[0] = 45 := UInt8.toNat_inj.1 (by rw [e]; rfl)
    rw [e2]; rfl
  · have e1 : ((s[0].toNat : Int) == 45) = false := beq_eq_false_iff_ne.2 (by omega)
    rw [e1]
    refine beq_eq_false_iff_ne.2 ?_
    intro g
    apply e
    have : s[0] = 45 := Option.some.inj g
    rw [this]; rfl
end Pl
end Go.Proofs.YtoalnfkjpdgbiaaDoor
