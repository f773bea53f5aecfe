/-
  Mathematics of texts byte by byte and bit by bit: bits of a list of bytes, their sum, a text filled up, laid over, and with a bit set.
-/
import Derived.Test.YtlkplmlhlgnnkabChecked
namespace Go.Proofs.Ytlkplmlhlgnnkab
namespace Pt
def bt (l : List UInt8) (i : Nat) : Nat := (l.getD (i / 8) 0).toNat / 2 ^ (7 - i % 8) % 2
def pc (n : Nat) : Nat := n / 128 % 2 + n / 64 % 2 + n / 32 % 2 + n / 16 % 2 + n / 8 % 2 + n / 4 % 2 + n / 2 % 2 + n % 2
def ones : List UInt8 → Nat
  | [] => 0
  | b :: l => pc b.toNat + ones l
def sumTo (f : Nat → Nat) : Nat → Nat
  | 0 => 0
  | n + 1 => sumTo f n + f n
theorem pc_le (n : Nat) : pc n ≤ 8 := by unfold pc; omega
theorem ones_le : ∀ l : List UInt8, ones l ≤ 8 * l.length
  | [] => by simp [ones]
  | b :: l => by have := ones_le l; have := pc_le b.toNat; simp only [ones, List.length_cons]; omega
theorem ones_app : ∀ a b : List UInt8, ones (a ++ b) = ones a + ones b
  | [], b => by simp [ones]
  | x :: a, b => by simp [ones, ones_app a b]; omega
theorem ones_zero : ∀ n, ones (List.replicate n 0) = 0
  | 0 => rfl
  | n + 1 => by rw [List.replicate_succ]; simp only [ones, ones_zero n]; decide +kernel
theorem ones_take_succ (l : List UInt8) (k : Nat) (h : k < l.length) : ones (l.take (k + 1)) = ones (l.take k) + pc (l.getD k 0).toNat := by
  rw [List.take_add_one, ones_app, List.getElem?_eq_getElem h]
  rw [List.getD_eq_getElem?_getD, List.getElem?_eq_getElem h]
  simp [ones]
theorem sum_shift (f : Nat → Nat) (k : Nat) : ∀ n, sumTo f (k + n) = sumTo f k + sumTo (fun i => f (k + i)) n
  | 0 => by simp [sumTo]
  | n + 1 => by rw [← Nat.add_assoc]; simp only [sumTo, sum_shift f k n]; omega
theorem sum_congr (f g : Nat → Nat) : ∀ n, (∀ i, i < n → f i = g i) → sumTo f n = sumTo g n
  | 0, _ => rfl
  | n + 1, h => by simp only [sumTo]; rw [sum_congr f g n fun i hi => h i (by omega), h n (by omega)]
theorem bt_cons (b : UInt8) (l : List UInt8) (i : Nat) : bt (b :: l) (8 + i) = bt l i := by
  unfold bt
  rw [show (8 + i) / 8 = i / 8 + 1 by omega, show (8 + i) % 8 = i % 8 by omega]
  rfl
theorem sum_eight (b : UInt8) (l : List UInt8) : sumTo (bt (b :: l)) 8 = pc b.toNat := by
  simp only [sumTo, bt, pc]
  simp
theorem ones_bits : ∀ l : List UInt8, sumTo (bt l) (8 * l.length) = ones l
  | [] => rfl
  | b :: l => by
    rw [show 8 * (b :: l).length = 8 + 8 * l.length by rw [List.length_cons]; omega, sum_shift, sum_eight]
    rw [sum_congr _ (bt l) _ fun i _ => bt_cons b l i, ones_bits l]
    rfl
theorem bt_le (l : List UInt8) (i : Nat) : bt l i < 2 := Nat.mod_lt _ (by decide)
theorem sum_le (l : List UInt8) : ∀ n, sumTo (bt l) n ≤ n
  | 0 => by simp [sumTo]
  | n + 1 => by have := sum_le l n; have := bt_le l n; simp only [sumTo]; omega
def fill (l : List UInt8) (n : Nat) : List UInt8 := l ++ List.replicate (n - l.length) 0
theorem fill_len (l : List UInt8) (n : Nat) : (fill l n).length = max l.length n := by simp [fill]; omega
theorem fill_at (l : List UInt8) (n i : Nat) : (fill l n).getD i 0 = l.getD i 0 := by
  unfold fill
  rw [List.getD_eq_getElem?_getD, List.getD_eq_getElem?_getD]
  by_cases h : i < l.length
  · rw [List.getElem?_append_left h]
  · rw [List.getElem?_append_right (by omega), List.getElem?_replicate, List.getElem?_eq_none (by omega : l.length ≤ i)]
    split <;> rfl
def over (l : List UInt8) (a : Nat) (v : List UInt8) : List UInt8 := (fill l (a + v.length)).take a ++ v ++ (fill l (a + v.length)).drop (a + v.length)
theorem over_len (l : List UInt8) (a : Nat) (v : List UInt8) : (over l a v).length = max l.length (a + v.length) := by
  unfold over
  simp only [List.length_append, List.length_take, List.length_drop, fill_len]
  omega
theorem over_at (l : List UInt8) (a : Nat) (v : List UInt8) (i : Nat) : (over l a v).getD i 0 = if a ≤ i ∧ i < a + v.length then v.getD (i - a) 0 else l.getD i 0 := by
  have hf := fill_len l (a + v.length)
  rw [← fill_at l (a + v.length) i]
  unfold over
  generalize fill l (a + v.length) = f at hf
  have ht : (f.take a).length = a := by rw [List.length_take]; omega
  simp only [List.getD_eq_getElem?_getD]
  by_cases h1 : i < a
  · rw [if_neg (by omega), List.append_assoc, List.getElem?_append_left (by omega), List.getElem?_take, if_pos h1]
  · by_cases h2 : i < a + v.length
    · rw [if_pos (by omega), List.getElem?_append_left (by rw [List.length_append]; omega), List.getElem?_append_right (by omega), ht]
    · rw [if_neg (by omega), List.getElem?_append_right (by rw [List.length_append]; omega), List.length_append, ht, List.getElem?_drop]
      rw [show a + v.length + (i - (a + v.length)) = i by omega]
theorem ext_getD {a b : List UInt8} (h : a.length = b.length) (g : ∀ i, i < a.length → a.getD i 0 = b.getD i 0) : a = b := by
  refine List.ext_getElem h fun i h1 h2 => ?_
  have := g i h1
  rw [List.getD_eq_getElem?_getD, List.getD_eq_getElem?_getD, List.getElem?_eq_getElem h1, List.getElem?_eq_getElem h2] at this
  simpa using this
theorem over_twice (l : List UInt8) (a : Nat) (v : List UInt8) : over (over l a v) a v = over l a v := by
  refine ext_getD (by simp only [over_len]; omega) fun i _ => ?_
  simp only [over_at]
  split <;> rfl
theorem over_cut (l : List UInt8) (a : Nat) (v : List UInt8) : ((over l a v).drop a).take v.length = v := by
  unfold over
  have hf := fill_len l (a + v.length)
  generalize fill l (a + v.length) = f at hf
  have ht : (f.take a).length = a := by rw [List.length_take]; omega
  rw [List.append_assoc, List.drop_append_of_le_length (by omega), List.drop_of_length_le (by omega), List.nil_append, List.take_append_of_le_length (by omega), List.take_of_length_le (by omega)]
def pb (c sh b : Nat) : Nat := c - c / 2 ^ sh % 2 * 2 ^ sh + b * 2 ^ sh
theorem pb_small : ∀ (c : Fin 256) (sh : Fin 8) (b : Fin 2), pb c.val sh.val b.val < 256 ∧ (∀ t : Fin 8, pb c.val sh.val b.val / 2 ^ t.val % 2 = if t.val = sh.val then b.val else c.val / 2 ^ t.val % 2) ∧ pc (pb c.val sh.val b.val) + c.val / 2 ^ sh.val % 2 = pc c.val + b.val ∧ pb (pb c.val sh.val b.val) sh.val (c.val / 2 ^ sh.val % 2) = c.val := by decide +kernel
def setb (l : List UInt8) (i b : Nat) : List UInt8 := (fill l (i / 8 + 1)).set (i / 8) (UInt8.ofNat (pb (l.getD (i / 8) 0).toNat (7 - i % 8) b))
theorem setb_len (l : List UInt8) (i b : Nat) : (setb l i b).length = max l.length (i / 8 + 1) := by simp [setb, fill_len]
theorem setb_at (l : List UInt8) (i b k : Nat) : (setb l i b).getD k 0 = if k = i / 8 then UInt8.ofNat (pb (l.getD (i / 8) 0).toNat (7 - i % 8) b) else l.getD k 0 := by
  have hf := fill_len l (i / 8 + 1)
  rw [← fill_at l (i / 8 + 1) k]
  unfold setb
  generalize fill l (i / 8 + 1) = f at hf
  rw [List.getD_eq_getElem?_getD, List.getD_eq_getElem?_getD, List.getElem?_set]
  by_cases h : k = i / 8
  · rw [if_pos h.symm, if_pos h, if_pos (by omega)]; rfl
  · rw [if_neg (fun e => h e.symm), if_neg h, List.getD_eq_getElem?_getD]
theorem ofNat_toNat {n : Nat} (h : n < 256) : (UInt8.ofNat n).toNat = n := by simp; omega
theorem bt_setb (l : List UInt8) (i b j : Nat) (hb : b < 2) : bt (setb l i b) j = if j = i then b else bt l j := by
  obtain ⟨h1, h2, _⟩ := pb_small ⟨(l.getD (i / 8) 0).toNat, UInt8.toNat_lt _⟩ ⟨7 - i % 8, by omega⟩ ⟨b, hb⟩
  simp only at h1 h2
  unfold bt
  rw [setb_at]
  by_cases h : j / 8 = i / 8
  · rw [if_pos h, ofNat_toNat h1]
    have := h2 ⟨7 - j % 8, by omega⟩
    simp only at this
    rw [this]
    by_cases e : j = i
    · rw [if_pos (by rw [e]), if_pos e]
    · rw [if_neg (by omega), if_neg e, h]
  · rw [if_neg h, if_neg (by rintro rfl; exact h rfl)]
theorem ones_set : ∀ (f : List UInt8) (k : Nat) (z : UInt8), k < f.length → ones (f.set k z) + pc (f.getD k 0).toNat = ones f + pc z.toNat
  | [], k, z, h => by simp at h
  | x :: f, 0, z, _ => by simp [ones]; omega
  | x :: f, k + 1, z, h => by
    have := ones_set f k z (by simpa using h)
    simp only [List.set_cons_succ, ones, List.getD_cons_succ]
    omega
theorem ones_setb (l : List UInt8) (i b : Nat) (hb : b < 2) : ones (setb l i b) + bt l i = ones l + b := by
  obtain ⟨h1, _, h3, _⟩ := pb_small ⟨(l.getD (i / 8) 0).toNat, UInt8.toNat_lt _⟩ ⟨7 - i % 8, by omega⟩ ⟨b, hb⟩
  simp only at h1 h3
  have h := ones_set (fill l (i / 8 + 1)) (i / 8) (UInt8.ofNat (pb (l.getD (i / 8) 0).toNat (7 - i % 8) b)) (by rw [fill_len]; omega)
  rw [ofNat_toNat h1, fill_at] at h
  have h0 : ones (fill l (i / 8 + 1)) = ones l := by unfold fill; rw [ones_app, ones_zero]; rfl
  unfold setb bt
  omega
theorem setb_back (l : List UInt8) (i b : Nat) (hb : b < 2) : setb (setb l i b) i (bt l i) = fill l (i / 8 + 1) := by
  obtain ⟨h1, _, _, h4⟩ := pb_small ⟨(l.getD (i / 8) 0).toNat, UInt8.toNat_lt _⟩ ⟨7 - i % 8, by omega⟩ ⟨b, hb⟩
  simp only at h1 h4
  refine ext_getD (by simp only [setb_len, fill_len]; omega) fun k _ => ?_
  rw [fill_at, setb_at]
  by_cases h : k = i / 8
  · rw [if_pos h, setb_at, if_pos rfl, ofNat_toNat h1]
    unfold bt
    rw [h4, h]
    simp
  · rw [if_neg h, setb_at, if_neg h]
end Pt
end Go.Proofs.Ytlkplmlhlgnnkab
