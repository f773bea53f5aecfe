/-
  Plain mathematics, with no program in sight: the table of commands, texts cut at blanks, capitals, and what is asked of a row.
-/
import Derived.WalkKit
namespace Go.Proofs.YtaflggjgndkdlaaDoor
/-- a fact kept out of the walk's sight -/
def Kept (p : Prop) : Prop := p
theorem keep {p : Prop} (h : p) : Kept p := h
theorem Kept.out {p : Prop} (h : Kept p) : p := h
namespace Vb
def ofL (l : List UInt8) : ByteArray := ⟨l.toArray⟩
theorem ofL_list (l : List UInt8) : (ofL l).toList = l := ByteArray.toList_mk l
theorem ofL_data (l : List UInt8) : (ofL l).data.toList = l := rfl
theorem ofL_of (s : ByteArray) : ofL s.data.toList = s := rfl
theorem ofL_size (l : List UInt8) : (ofL l).size = l.length := by show l.toArray.size = _; simp
theorem size_list (s : ByteArray) : s.data.toList.length = s.size := Array.length_toList
theorem ofL_inj {l m : List UInt8} (h : ofL l = ofL m) : l = m := by rw [← ofL_list l, h, ofL_list]
/-- arity, flags, first, last, jump -/
abbrev Row := Int × Int × Int × Int × Int
def zeroR : Row := (0, 0, 0, 0, 0)
def kinL : List (List UInt8 × Row) := [
  ([71, 69, 84, 32, 72, 71, 69, 84, 65, 76, 76, 32, 72, 75, 69, 89, 83, 32, 72, 76, 69, 78, 32, 72, 86, 65, 76, 83, 32, 76, 76, 69, 78, 32, 80, 84, 84, 76, 32, 83, 67, 65, 82, 68, 32, 83, 77, 69, 77, 66, 69, 82, 83, 32, 83, 84, 82, 76, 69, 78, 32, 84, 84, 76, 32, 84, 89, 80, 69, 32, 90, 67, 65, 82, 68], (2, 0, 1, 1, 1)),
  ([76, 80, 85, 83, 72, 32, 76, 80, 85, 83, 72, 88, 32, 82, 80, 85, 83, 72, 32, 82, 80, 85, 83, 72, 88, 32, 83, 65, 68, 68, 32, 83, 69, 84], (-3, 3, 1, 1, 1)),
  ([65, 80, 80, 69, 78, 68, 32, 68, 69, 67, 82, 66, 89, 32, 69, 88, 80, 73, 82, 69, 32, 69, 88, 80, 73, 82, 69, 65, 84, 32, 71, 69, 84, 83, 69, 84, 32, 73, 78, 67, 82, 66, 89, 32, 73, 78, 67, 82, 66, 89, 70, 76, 79, 65, 84, 32, 80, 69, 88, 80, 73, 82, 69, 32, 80, 69, 88, 80, 73, 82, 69, 65, 84, 32, 83, 69, 84, 78, 88], (3, 3, 1, 1, 1)),
  ([71, 69, 84, 68, 69, 76, 32, 80, 69, 82, 83, 73, 83, 84], (2, 1, 1, 1, 1)),
  ([69, 88, 73, 83, 84, 83, 32, 77, 71, 69, 84, 32, 83, 68, 73, 70, 70, 32, 83, 73, 78, 84, 69, 82, 32, 83, 85, 78, 73, 79, 78, 32, 84, 79, 85, 67, 72], (-2, 0, 1, -1, 1)),
  ([77, 83, 69, 84, 32, 77, 83, 69, 84, 78, 88], (-3, 3, 1, -1, 2)),
  ([68, 69, 67, 82, 32, 73, 78, 67, 82], (2, 3, 1, 1, 1)),
  ([71, 69, 84, 82, 65, 78, 71, 69, 32, 76, 82, 65, 78, 71, 69, 32, 90, 67, 79, 85, 78, 84], (4, 0, 1, 1, 1)),
  ([72, 73, 78, 67, 82, 66, 89, 32, 72, 73, 78, 67, 82, 66, 89, 70, 76, 79, 65, 84, 32, 72, 83, 69, 84, 78, 88, 32, 76, 83, 69, 84, 32, 83, 69, 84, 66, 73, 84, 32, 83, 69, 84, 82, 65, 78, 71, 69, 32, 90, 73, 78, 67, 82, 66, 89], (4, 3, 1, 1, 1)),
  ([71, 69, 84, 66, 73, 84, 32, 72, 69, 88, 73, 83, 84, 83, 32, 72, 71, 69, 84, 32, 72, 83, 84, 82, 76, 69, 78, 32, 76, 73, 78, 68, 69, 88, 32, 83, 73, 83, 77, 69, 77, 66, 69, 82, 32, 90, 82, 65, 78, 75, 32, 90, 82, 69, 86, 82, 65, 78, 75, 32, 90, 83, 67, 79, 82, 69], (3, 0, 1, 1, 1)),
  ([66, 73, 84, 67, 79, 85, 78, 84, 32, 72, 82, 65, 78, 68, 70, 73, 69, 76, 68, 32, 83, 82, 65, 78, 68, 77, 69, 77, 66, 69, 82], (-2, 0, 1, 1, 1)),
  ([76, 80, 79, 80, 32, 82, 80, 79, 80, 32, 83, 80, 79, 80, 32, 90, 80, 79, 80, 77, 65, 88, 32, 90, 80, 79, 80, 77, 73, 78], (-2, 1, 1, 1, 1)),
  ([76, 73, 78, 83, 69, 82, 84], (5, 3, 1, 1, 1)),
  ([76, 82, 69, 77, 32, 76, 84, 82, 73, 77, 32, 90, 82, 69, 77, 82, 65, 78, 71, 69, 66, 89, 82, 65, 78, 75, 32, 90, 82, 69, 77, 82, 65, 78, 71, 69, 66, 89, 83, 67, 79, 82, 69], (4, 1, 1, 1, 1)),
  ([76, 77, 79, 86, 69], (5, 3, 1, 2, 1)),
  ([72, 77, 71, 69, 84, 32, 72, 83, 67, 65, 78, 32, 76, 80, 79, 83, 32, 83, 77, 73, 83, 77, 69, 77, 66, 69, 82, 32, 83, 83, 67, 65, 78, 32, 90, 77, 83, 67, 79, 82, 69], (-3, 0, 1, 1, 1)),
  ([72, 83, 69, 84, 32, 90, 65, 68, 68], (-4, 3, 1, 1, 1)),
  ([72, 68, 69, 76, 32, 83, 82, 69, 77, 32, 90, 82, 69, 77], (-3, 1, 1, 1, 1)),
  ([83, 77, 79, 86, 69], (4, 3, 1, 2, 1)),
  ([83, 68, 73, 70, 70, 83, 84, 79, 82, 69, 32, 83, 73, 78, 84, 69, 82, 83, 84, 79, 82, 69, 32, 83, 85, 78, 73, 79, 78, 83, 84, 79, 82, 69], (-3, 3, 1, -1, 1)),
  ([90, 82, 65, 78, 71, 69, 32, 90, 82, 65, 78, 71, 69, 66, 89, 83, 67, 79, 82, 69], (-4, 0, 1, 1, 1)),
  ([68, 69, 76], (-2, 1, 1, -1, 1)),
  ([82, 69, 78, 65, 77, 69, 32, 82, 69, 78, 65, 77, 69, 78, 88], (3, 3, 1, 2, 1)),
  ([67, 79, 80, 89], (-3, 3, 1, 2, 1)),
  ([69, 67, 72, 79, 32, 75, 69, 89, 83], (2, 0, 0, 0, 0)),
  ([83, 67, 65, 78], (-2, 0, 0, 0, 0)),
  ([68, 66, 83, 73, 90, 69, 32, 82, 65, 78, 68, 79, 77, 75, 69, 89, 32, 85, 78, 87, 65, 84, 67, 72], (1, 0, 0, 0, 0)),
  ([70, 76, 85, 83, 72, 65, 76, 76], (1, 1, 0, 0, 0)),
  ([80, 73, 78, 71], (-1, 8, 0, 0, 0)),
  ([81, 85, 73, 84], (1, 12, 0, 0, 0)),
  ([68, 73, 83, 67, 65, 82, 68, 32, 69, 88, 69, 67, 32, 77, 85, 76, 84, 73], (1, 4, 0, 0, 0)),
  ([87, 65, 84, 67, 72], (-2, 4, 1, -1, 1)),
  ([80, 83, 85, 66, 83, 67, 82, 73, 66, 69, 32, 83, 85, 66, 83, 67, 82, 73, 66, 69], (-2, 12, 0, 0, 0)),
  ([80, 85, 78, 83, 85, 66, 83, 67, 82, 73, 66, 69, 32, 85, 78, 83, 85, 66, 83, 67, 82, 73, 66, 69], (-1, 12, 0, 0, 0)),
  ([80, 85, 66, 76, 73, 83, 72], (3, 0, 0, 0, 0))]
/-- what stands between blanks -/
def pieces : List UInt8 → List (List UInt8)
  | [] => [[]]
  | c :: l => if c = 32 then [] :: pieces l else match pieces l with
    | [] => [[c]]
    | p :: r => (c :: p) :: r
/-- where the first blank stands -/
def blank (l : List UInt8) : Nat := l.findIdx (· == 32)
theorem pieces_ne (l : List UInt8) : pieces l ≠ [] := by
  cases l with
  | nil => simp [pieces]
  | cons c l =>
    unfold pieces
    split
    · simp
    · split <;> simp
theorem pieces_none : ∀ (l : List UInt8), blank l = l.length → pieces l = [l]
  | [], _ => rfl
  | c :: l, h => by
    unfold blank at h
    rw [List.findIdx_cons] at h
    by_cases e : c = 32
    · subst e; simp at h
    · have e' : (c == 32) = false := by simpa using e
      rw [e'] at h
      simp only [cond_false, List.length_cons, Nat.add_right_cancel_iff] at h
      unfold pieces
      rw [if_neg e, pieces_none l h]
theorem pieces_some : ∀ (l : List UInt8), blank l < l.length → pieces l = l.take (blank l) :: pieces (l.drop (blank l + 1))
  | [], h => by simp at h
  | c :: l, h => by
    unfold blank at h ⊢
    rw [List.findIdx_cons] at h ⊢
    by_cases e : c = 32
    · subst e; simp [pieces]
    · have e' : (c == 32) = false := by simpa using e
      rw [e'] at h ⊢
      simp only [cond_false, List.length_cons, Nat.add_lt_add_iff_right] at h
      have ih := pieces_some l (by unfold blank; exact h)
      unfold blank at ih
      simp only [cond_false, List.take_succ_cons, List.drop_succ_cons]
      conv => lhs; unfold pieces
      rw [if_neg e, ih]
theorem blank_le (l : List UInt8) : blank l ≤ l.length := List.findIdx_le_length
/-- the row of a name, if there is one -/
def findIn (u : List UInt8) : List (List UInt8 × Row) → Option Row
  | [] => none
  | k :: r => if u ∈ pieces k.1 then some k.2 else findIn u r
def find (u : List UInt8) : Option Row := findIn u kinL
def upB (c : UInt8) : UInt8 := if 97 ≤ c.toNat ∧ c.toNat ≤ 122 then c - 97 + 65 else c
def up (s : ByteArray) : ByteArray := ofL (s.data.toList.map upB)
theorem up_size (s : ByteArray) : (up s).size = s.size := by unfold up; rw [ofL_size, List.length_map, size_list]
theorem findIn_mem {u : List UInt8} {r : Row} : ∀ {ks : List (List UInt8 × Row)}, findIn u ks = some r → ∃ k ∈ ks, u ∈ pieces k.1 ∧ r = k.2
  | [], h => by simp [findIn] at h
  | k :: ks, h => by
    unfold findIn at h
    split at h
    · cases h; exact ⟨k, by simp, by assumption, rfl⟩
    · obtain ⟨k', h1, h2⟩ := findIn_mem h
      exact ⟨k', by simp [h1], h2⟩
theorem findIn_some {u : List UInt8} : ∀ {ks : List (List UInt8 × Row)} {k : List UInt8 × Row}, (∀ k' ∈ ks, u ∉ pieces k'.1) → u ∈ pieces k.1 → ∀ rest, findIn u (ks ++ k :: rest) = some k.2
  | [], k, _, h, rest => by simp [findIn, h]
  | k' :: ks, k, hn, h, rest => by
    rw [List.cons_append]
    unfold findIn
    rw [if_neg (hn k' (by simp))]
    exact findIn_some (fun x hx => hn x (by simp [hx])) h rest
theorem findIn_none {u : List UInt8} : ∀ {ks : List (List UInt8 × Row)}, (∀ k' ∈ ks, u ∉ pieces k'.1) → findIn u ks = none
  | [], _ => rfl
  | k' :: ks, hn => by
    unfold findIn
    rw [if_neg (hn k' (by simp))]
    exact findIn_none (fun x hx => hn x (by simp [hx]))
theorem kin_len : kinL.length = 35 := by decide +kernel
end Vb
end Go.Proofs.YtaflggjgndkdlaaDoor
