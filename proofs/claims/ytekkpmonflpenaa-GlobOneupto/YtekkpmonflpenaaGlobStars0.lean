/-
  Plain mathematics: what stars mean, alone and around a text whose bytes are escaped.
-/
import Derived.Test.YtekkpmonflpenaaGlobItself0
namespace Go.Proofs.Ytekkpmonflpenaa
open Go.RowKit
namespace Gb
/-- so many stars -/
def st (n : Nat) : ByteArray := ⟨(List.replicate n 42).toArray⟩
theorem st_one : st 1 = ⟨#[42]⟩ := rfl
theorem data_app (a b : ByteArray) : (a ++ b).data.toList = a.data.toList ++ b.data.toList := by
  rw [ByteArray.data_append, Array.toList_append]
theorem app_eq {a b c : ByteArray} (h : a.data.toList ++ b.data.toList = c.data.toList) : a ++ b = c := Go.WideShapes.bytes_inj (by rw [data_app, h])
theorem st_more (n : Nat) : st n ++ ⟨#[42]⟩ = st (n + 1) := by
  apply app_eq
  show List.replicate n (42 : UInt8) ++ [42] = List.replicate (n + 1) 42
  rw [List.replicate_succ']
theorem st_size (n : Nat) : (st n).size = n := by
  show (List.replicate n (42 : UInt8)).toArray.size = n
  simp
theorem sgs_stars (n : Nat) (q : List UInt8) : sgs (List.replicate n 42 ++ q) = List.replicate n .star ++ sgs q := by
  induction n with
  | zero => rfl
  | succ n ih =>
    rw [List.replicate_succ, List.cons_append, sgs_step]
    have r : rs (42 :: (List.replicate n 42 ++ q)) = (.star, List.replicate n 42 ++ q) := rfl
    rw [r, ih]
    rfl
theorem bool_iff {x y : Bool} (h : x = true ↔ y = true) : x = y := by
  cases x <;> cases y <;> simp at h ⊢
theorem star_star (p : List Sg) (t : List UInt8) : M (.star :: .star :: p) t = M (.star :: p) t := by
  apply bool_iff
  constructor
  · intro h
    obtain ⟨k, hk⟩ := M_star.1 h
    obtain ⟨j, hj⟩ := M_star.1 hk
    rw [List.drop_drop] at hj
    exact M_star.2 ⟨_, hj⟩
  · intro h
    exact star_yes h
theorem stars_one (n : Nat) (p : List Sg) (t : List UInt8) : M (List.replicate (n + 1) .star ++ p) t = M (.star :: p) t := by
  induction n generalizing t with
  | zero => rfl
  | succ n ih =>
    rw [List.replicate_succ, List.cons_append]
    have e : List.replicate (n + 1) Sg.star ++ p = .star :: (List.replicate n .star ++ p) := by rw [List.replicate_succ]; rfl
    rw [e, star_star, ← List.cons_append, ← List.replicate_succ, ih]
theorem star_nil (t : List UInt8) : M [.star] t = true := M_star.2 ⟨t.length, by rw [List.drop_length]; rfl⟩
theorem M_bytes_app (l t : List UInt8) (p : List Sg) : M (l.map .byte ++ p) t = true ↔ ∃ r, t = l ++ r ∧ M p r = true := by
  induction l generalizing t with
  | nil => simp
  | cons b l ih =>
    cases t with
    | nil => simp [M]
    | cons c t =>
      simp only [List.map_cons, List.cons_append, M, Bool.and_eq_true, beq_iff_eq, ih, List.cons.injEq]
      constructor
      · rintro ⟨rfl, r, rfl, h⟩; exact ⟨r, ⟨rfl, rfl⟩, h⟩
      · rintro ⟨r, ⟨rfl, rfl⟩, h⟩; exact ⟨rfl, r, rfl, h⟩
/-- whether t stands in s at one of the first j places -/
def stdB (s t : ByteArray) (j : Nat) : Bool := (List.range j).any fun i => (s.extract i (i + t.size)).toList == t.toList
theorem std_zero (s t : ByteArray) : stdB s t 0 = false := rfl
theorem std_more {s t : ByteArray} {j : Nat} {q : Bool} (h : ((s.extract j (j + t.size)).toList == t.toList) = q) : stdB s t (j + 1) = (stdB s t j || q) := by
  unfold stdB
  rw [List.range_succ, List.any_append]
  simp [h]
theorem ext_at (s : ByteArray) (i n : Nat) : (s.extract i (i + n)).toList = (s.data.toList.drop i).take n := by
  rw [ByteArray.toList_eq, ext_list]
  unfold D
  congr 1; omega
theorem std_iff (s t : ByteArray) : stdB s t (s.size + 1 - t.size) = true ↔ ∃ k r, s.data.toList.drop k = t.data.toList ++ r := by
  unfold stdB
  rw [List.any_eq_true]
  constructor
  · rintro ⟨i, _, h⟩
    rw [ext_at, ByteArray.toList_eq, beq_iff_eq] at h
    exact ⟨i, (s.data.toList.drop i).drop t.size, by rw [← h, List.take_append_drop]⟩
  · rintro ⟨k, r, h⟩
    have hl := congrArg List.length h
    rw [List.length_drop, List.length_append, len, len] at hl
    by_cases hk : k ≤ s.size
    · refine ⟨k, List.mem_range.2 (by omega), ?_⟩
      rw [ext_at, ByteArray.toList_eq, beq_iff_eq, h, ← len t, List.take_left]
    · have ht : t.size = 0 := by omega
      refine ⟨0, List.mem_range.2 (by omega), ?_⟩
      rw [ext_at, ht, ByteArray.toList_eq, beq_iff_eq, List.take_zero]
      symm
      apply List.eq_nil_of_length_eq_zero
      rw [len, ht]
theorem star_all (k : Nat) (s : ByteArray) : ans (st (k + 1)) s = true := by
  unfold ans
  have e : D (st (k + 1)) 0 = List.replicate (k + 1) 42 ++ [] := by rw [List.append_nil]; rfl
  rw [e, sgs_stars, stars_one, sgs_nil]
  exact star_nil _
theorem star_mid (k : Nat) (s t : ByteArray) : ans (st (k + 1) ++ escB t ++ st (k + 1)) s = stdB s t (s.size + 1 - t.size) := by
  apply bool_iff
  rw [std_iff]
  unfold ans
  have e : D (st (k + 1) ++ escB t ++ st (k + 1)) 0 = List.replicate (k + 1) 42 ++ (esc t.data.toList ++ (List.replicate (k + 1) 42 ++ [])) := by
    rw [D_zero, data_app, data_app, List.append_nil, List.append_assoc]; rfl
  rw [e, sgs_stars, stars_one, sgs_esc_app, sgs_stars, sgs_nil, M_star]
  constructor
  · rintro ⟨j, h⟩
    obtain ⟨r, h1, h2⟩ := (M_bytes_app _ _ _).1 h
    exact ⟨j, r, h1⟩
  · rintro ⟨j, r, h⟩
    exact ⟨j, (M_bytes_app _ _ _).2 ⟨r, h, by rw [stars_one]; exact star_nil _⟩⟩
theorem star_front (k : Nat) (s t : ByteArray) : ans (escB t ++ st (k + 1)) (t ++ s) = true := by
  unfold ans
  have e : D (escB t ++ st (k + 1)) 0 = esc t.data.toList ++ (List.replicate (k + 1) 42 ++ []) := by
    rw [D_zero, data_app, List.append_nil]; rfl
  rw [e, sgs_esc_app, sgs_stars, sgs_nil]
  exact (M_bytes_app _ _ _).2 ⟨s.data.toList, by rw [D_zero, data_app], by rw [stars_one]; exact star_nil _⟩
theorem star_back (k : Nat) (s t : ByteArray) : ans (st (k + 1) ++ escB t) (s ++ t) = true := by
  unfold ans
  have e : D (st (k + 1) ++ escB t) 0 = List.replicate (k + 1) 42 ++ (esc t.data.toList ++ []) := by
    rw [D_zero, data_app, List.append_nil]; rfl
  rw [e, sgs_stars, stars_one, sgs_esc_app, sgs_nil, M_star]
  refine ⟨s.size, (M_bytes_app _ _ _).2 ⟨[], ?_, rfl⟩⟩
  rw [D_zero, data_app, ← len s, List.drop_left, List.append_nil]
theorem star_plain (k : Nat) : pok (st (k + 1)) = false := by
  unfold pok
  have e : D (st (k + 1)) 0 = List.replicate (k + 1) 42 ++ [] := by rw [List.append_nil]; rfl
  rw [e, sgs_stars]
  rfl
end Gb
end Go.Proofs.Ytekkpmonflpenaa
