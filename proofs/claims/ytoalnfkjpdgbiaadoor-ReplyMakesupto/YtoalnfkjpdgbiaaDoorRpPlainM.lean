/-
  Plain mathematics: what the statements make of a tree's reply, so that it may be written.
-/
import Derived.Test.YtoalnfkjpdgbiaaDoorRpTree0
import Derived.Test.YtoalnfkjpdgbiaaDoorRpErr
import Derived.Test.YtoalnfkjpdgbiaaDoorRpCut
import Derived.Test.YtoalnfkjpdgbiaaDoorDigs
namespace Go.Proofs.YtoalnfkjpdgbiaaDoor
set_option linter.unusedVariables false
namespace Rp
/-- which kind it becomes: e: it has no list, or is too deep for one -/
def plk (k : Int) (e : Bool) : Int := if e then k % 7 + 1 else 6
/-- neither CR nor LF -/
def washed (s : ByteArray) : ByteArray := ofL ((bytesOf s).filter fun c => c != 13 && c != 10)
def plW {α β : Type} (f : Option (List α → List β)) (k : Int) (s : ByteArray) (i : Int) (l : List α) : Int × ByteArray × Int × List β :=
  let q := plk k (l.isEmpty || f.isNone)
  if q = 1 ∨ q = 2 then (q, washed s, 0, [])
  else if q = 3 then (3, .empty, i, [])
  else if q = 4 then (4, s, 0, [])
  else if q = 6 then (match f with
    | none => (7, .empty, 0, [])
    | some g => (6, .empty, 0, g l))
  else (q, .empty, 0, [])
/-- at most m more arrays in one another -/
def pla : (n : Nat) → (m : Nat) → T n → T (m + 1)
  | 0, _ => fun r => nomatch r
  | n + 1, 0 => fun r => plW none (kd r) (tx r) (nm r) (ls r)
  | n + 1, m + 1 => fun r => plW (some (List.map (pla n m))) (kd r) (tx r) (nm r) (ls r)
theorem washed_clean (s : ByteArray) : clean (bytesOf (washed s)) = true := by
  unfold washed clean
  rw [ofL_bytes, List.all_eq_true]
  intro c hc
  exact (List.mem_filter.1 hc).2
theorem washed_size (s : ByteArray) : (washed s).size ≤ s.size := by
  unfold washed
  rw [ofL_size]
  exact Nat.le_trans (List.length_filter_le _ _) (Nat.le_of_eq (bytes_len s))
theorem plk_range (k : Int) (e : Bool) : 1 ≤ plk k e ∧ plk k e ≤ 7 := by
  unfold plk
  split
  · have := Int.emod_nonneg k (show (7 : Int) ≠ 0 by decide)
    have := Int.emod_lt_of_pos k (show (0 : Int) < 7 by decide)
    omega
  · omega
/-- how much a reply holds -/
def wt : (n : Nat) → T n → Nat
  | 0 => fun r => nomatch r
  | n + 1 => fun r => 4 + (tx r).size + ((ls r).map (wt n)).sum
/-- its numbers are numbers -/
def InP : (n : Nat) → T n → Prop
  | 0 => fun r => nomatch r
  | n + 1 => fun r => (-9223372036854775808 ≤ nm r ∧ nm r ≤ 9223372036854775807) ∧ ∀ u ∈ ls r, InP n u
/-- what it makes is right, not too deep, and written in few bytes -/
def Good (n d B : Nat) (t : T n) : Prop := right n t = true ∧ deep n d t = false ∧ Fits n t ∧ (enc n t).length ≤ B
theorem leaf_good (m B : Nat) (q : Int) (s : ByteArray) (i : Int) (h6 : q ≠ 6) (hw : wellW q s i ([] : List (T m)) = true) (hs : s.size ≤ 16777216) (hi : -9223372036854775808 ≤ i ∧ i ≤ 9223372036854775807) (hB : 28 + s.size ≤ B) : Good (m + 1) m B (q, s, i, []) := by
  refine ⟨?_, ?_, ⟨hs, Nat.zero_le _, hi, fun u hu => by cases hu⟩, ?_⟩
  · show (wellW q s i ([] : List (T m)) && ([] : List (T m)).all (right m)) = true
    rw [hw]; rfl
  · show ((q == 6 && m == 0) || ([] : List (T m)).any (deep m (m - 1))) = false
    have : (q == 6) = false := by simpa using h6
    rw [this]; rfl
  · show (encW (enc m) q s i []).length ≤ B
    have h1 := Pl.itoa_len i hi.1 hi.2
    have h2 := Pl.itoa_len (s.size : Int) (by omega) (by omega)
    have h3 := Pl.itoa_len (([] : List (T m)).length : Int) (by simp) (by simp)
    have h4 := bytes_len s
    unfold encW crlf
    repeat' split
    all_goals simp only [List.length_cons, List.length_append, List.length_nil, List.flatMap_nil] at *
    all_goals omega
theorem sum_enc {α : Type} {f : α → Nat} {g : α → List UInt8} : ∀ (l : List α), (∀ x ∈ l, (g x).length ≤ f x) → (l.flatMap g).length ≤ (l.map f).sum
  | [], _ => by simp
  | x :: l, h => by
    have h1 := h x (by simp)
    have h2 := sum_enc l (fun y hy => h y (by simp [hy]))
    rw [List.map_cons, List.sum_cons, List.flatMap_cons, List.length_append]
    omega
theorem list_good (m B : Nat) (L : List (T (m + 1))) (hL : ∀ u ∈ L, ∃ b, Good (m + 1) m b u) (hn : L.length ≤ 16777216) (hB : 28 + (L.flatMap (enc (m + 1))).length ≤ B) : Good (m + 2) (m + 1) B (6, .empty, 0, L) := by
  refine ⟨?_, ?_, ⟨by show (0 : Nat) ≤ _; omega, hn, ⟨by show (-9223372036854775808 : Int) ≤ 0; decide, by show (0 : Int) ≤ 9223372036854775807; decide⟩, fun u hu => ?_⟩, ?_⟩
  · show (wellW 6 .empty 0 L && L.all (right (m + 1))) = true
    rw [List.all_eq_true.2 (fun u hu => (hL u hu).choose_spec.1)]
    rfl
  · show (((6 : Int) == 6 && (m + 1) == 0) || L.any (deep (m + 1) (m + 1 - 1))) = false
    rw [List.any_eq_false.2 (fun u hu => by rw [show m + 1 - 1 = m from rfl, (hL u hu).choose_spec.2.1]; decide)]
    simp
  · exact (hL u hu).choose_spec.2.2.1
  · show (encW (enc (m + 1)) 6 .empty 0 L).length ≤ B
    have h3 := Pl.itoa_len (L.length : Int) (by omega) (by omega)
    unfold encW crlf
    rw [if_neg (by decide), if_neg (by decide), if_neg (by decide), if_neg (by decide), if_neg (by decide), if_neg (by decide)]
    simp only [List.length_cons, List.length_append, List.length_nil] at *
    omega
theorem wellW_text {α : Type} (k : Int) (s : ByteArray) (hk : k = 1 ∨ k = 2) (h : clean (bytesOf s) = true) : wellW k s 0 ([] : List α) = true := by
  unfold wellW
  rw [if_pos hk, h]
  rfl
theorem sum_mem {α : Type} (f : α → Nat) : ∀ (l : List α) (x : α), x ∈ l → f x ≤ (l.map f).sum
  | y :: l, x, h => by
    rw [List.map_cons, List.sum_cons]
    rcases List.mem_cons.1 h with e | e
    · rw [e]; omega
    · have := sum_mem f l x e; omega
theorem sum_len {α : Type} (f : α → Nat) (h : ∀ x, 1 ≤ f x) : ∀ (l : List α), l.length ≤ (l.map f).sum
  | [] => by simp
  | y :: l => by
    rw [List.map_cons, List.sum_cons, List.length_cons]
    have := sum_len f h l
    have := h y
    omega
theorem wt_pos : ∀ (n : Nat) (t : T n), 1 ≤ wt n t
  | 0, t => nomatch t
  | n + 1, t => by show 1 ≤ 4 + (tx t).size + ((ls t).map (wt n)).sum; omega
theorem plW_good (m B : Nat) {α : Type} (f : Option (List α → List (T m))) (k : Int) (s : ByteArray) (i : Int) (l : List α) (hs : s.size ≤ 16777216) (hi : -9223372036854775808 ≤ i ∧ i ≤ 9223372036854775807) (hB : 28 + s.size ≤ B)
    (hf : ∀ g, f = some g → Good (m + 1) m B (6, .empty, 0, g l)) : Good (m + 1) m B (plW f k s i l) := by
  have hr := plk_range k (l.isEmpty || f.isNone)
  have h0 : (0 : Nat) ≤ 16777216 := by omega
  have z : (-9223372036854775808 : Int) ≤ 0 ∧ (0 : Int) ≤ 9223372036854775807 := ⟨by decide, by decide⟩
  unfold plW
  generalize plk k (l.isEmpty || f.isNone) = q at *
  dsimp only
  split
  · rename_i h
    exact leaf_good m B q _ _ (by omega) (wellW_text q _ h (washed_clean s)) (Nat.le_trans (washed_size s) hs) z (by have := washed_size s; omega)
  · split
    · exact leaf_good m B 3 .empty i (by decide) (by rfl) h0 hi (by show 28 + 0 ≤ B; omega)
    · split
      · exact leaf_good m B 4 s 0 (by decide) (by rfl) hs z hB
      · split
        · cases f with
          | none => exact leaf_good m B 7 .empty 0 (by decide) (by rfl) h0 z (by show 28 + 0 ≤ B; omega)
          | some g => exact hf g rfl
        · have hq : q = 5 ∨ q = 7 := by omega
          rcases hq with rfl | rfl
          · exact leaf_good m B 5 .empty 0 (by decide) (by rfl) h0 z (by show 28 + 0 ≤ B; omega)
          · exact leaf_good m B 7 .empty 0 (by decide) (by rfl) h0 z (by show 28 + 0 ≤ B; omega)
theorem pla_good : ∀ (n m : Nat) (t : T n), InP n t → wt n t ≤ 2000000 → Good (m + 1) m (7 * wt n t) (pla n m t)
  | 0, _, t, _, _ => nomatch t
  | n + 1, 0, t, hi, hw => by
    have hw' : wt (n + 1) t = 4 + (tx t).size + ((ls t).map (wt n)).sum := rfl
    exact plW_good 0 _ none (kd t) (tx t) (nm t) (ls t) (by omega) hi.1 (by omega) (fun g h => by cases h)
  | n + 1, m + 1, t, hi, hw => by
    have hw' : wt (n + 1) t = 4 + (tx t).size + ((ls t).map (wt n)).sum := rfl
    have hk : ∀ u ∈ ls t, Good (m + 1) m (7 * wt n u) (pla n m u) := fun u hu => pla_good n m u (hi.2 u hu) (by have := sum_mem (wt n) _ u hu; omega)
    refine plW_good (m + 1) _ _ (kd t) (tx t) (nm t) (ls t) (by omega) hi.1 (by omega) (fun g h => ?_)
    cases h
    refine list_good m _ _ (fun u hu => ?_) (by rw [List.length_map]; have := sum_len (wt n) (wt_pos n) (ls t); omega) ?_
    · obtain ⟨x, hx, rfl⟩ := List.mem_map.1 hu
      exact ⟨_, hk x hx⟩
    · have h2 := sum_enc (f := fun x => 7 * wt n x) (g := fun x => enc (m + 1) (pla n m x)) (ls t) (fun x hx => (hk x hx).2.2.2)
      have h3 : ((ls t).map (fun x => 7 * wt n x)).sum = 7 * ((ls t).map (wt n)).sum := by
        generalize ls t = L
        induction L with
        | nil => rfl
        | cons y L ih => simp only [List.map_cons, List.sum_cons, ih]; omega
      have h4 : (((ls t).map (pla n m)).flatMap (enc (m + 1))) = (ls t).flatMap (fun x => enc (m + 1) (pla n m x)) := by rw [List.flatMap_map]
      rw [h4]
      omega
end Rp
/-- what the nodes from a place on hold -/
def rest (S : List Nd) (a : Nat) : Nat := ((S.drop a).map fun o => 4 + o.s.size).sum
theorem rest_at (S : List Nd) (a : Nat) (h : a < S.length) : rest S a = 4 + (S[a]).s.size + rest S (a + 1) := by
  unfold rest
  rw [List.drop_eq_getElem_cons h, List.map_cons, List.sum_cons]
theorem kids_wt {m : Nat} {D : Nat → Rp.T m × Nat} {S : List Nd} (h : ∀ a, a < S.length → a < (D a).2 ∧ (D a).2 ≤ S.length) (hw : ∀ a, a < S.length → Rp.wt m (D a).1 + rest S (D a).2 ≤ rest S a) :
    ∀ (k a : Nat), a ≤ S.length → ((kids D S.length k a).1.map (Rp.wt m)).sum + rest S (kids D S.length k a).2 ≤ rest S a
  | 0, a, ha => by show 0 + rest S a ≤ rest S a; omega
  | k + 1, a, ha => by
    unfold kids
    split
    · rename_i hl
      have h1 := kids_wt h hw k (D a).2 (h a hl).2
      have h2 := hw a hl
      show ((D a).1 :: (kids D S.length k (D a).2).1 |>.map (Rp.wt m)).sum + rest S (kids D S.length k (D a).2).2 ≤ _
      rw [List.map_cons, List.sum_cons]
      omega
    · show 0 + rest S a ≤ rest S a; omega
theorem tre_wt (S : List Nd) : ∀ (m a : Nat), a < S.length → Rp.wt (m + 1) (tre S m a).1 + rest S (tre S m a).2 ≤ rest S a
  | 0, a, ha => by
    unfold tre
    rw [List.getElem?_eq_getElem ha, rest_at S a ha]
    show 4 + (S[a]).s.size + 0 + rest S (a + 1) ≤ _
    omega
  | m + 1, a, ha => by
    have := kids_wt (D := tre S m) (fun x hx => tre_le S m x hx) (fun x hx => tre_wt S m x hx) S[a].n.toNat (a + 1) ha
    unfold tre
    rw [List.getElem?_eq_getElem ha, rest_at S a ha]
    show 4 + (S[a]).s.size + ((kids (tre S m) S.length S[a].n.toNat (a + 1)).1.map (Rp.wt (m + 1))).sum + rest S (kids (tre S m) S.length S[a].n.toNat (a + 1)).2 ≤ _
    omega
theorem kids_mem {α : Type} {D : Nat → α × Nat} {len : Nat} {P : α → Prop} (h : ∀ a, a < len → P (D a).1) : ∀ (k a : Nat), ∀ x ∈ (kids D len k a).1, P x
  | 0, a, x, hx => by cases hx
  | k + 1, a, x, hx => by
    unfold kids at hx
    split at hx
    · rename_i hl
      rcases List.mem_cons.1 hx with e | e
      · rw [e]; exact h a hl
      · exact kids_mem h k _ x e
    · cases hx
theorem tre_in (S : List Nd) (hS : ∀ o ∈ S, I64 o.i) : ∀ (m a : Nat), Rp.InP (m + 1) (tre S m a).1
  | 0, a => by
    unfold tre
    cases h : S[a]? with
    | none => exact ⟨⟨by show (-9223372036854775808 : Int) ≤ 0; decide, by show (0 : Int) ≤ 9223372036854775807; decide⟩, fun u hu => by cases hu⟩
    | some o => exact ⟨hS o (List.mem_of_getElem? h), fun u hu => by cases hu⟩
  | m + 1, a => by
    unfold tre
    cases h : S[a]? with
    | none => exact ⟨⟨by show (-9223372036854775808 : Int) ≤ 0; decide, by show (0 : Int) ≤ 9223372036854775807; decide⟩, fun u hu => by cases hu⟩
    | some o => exact ⟨hS o (List.mem_of_getElem? h), fun u hu => kids_mem (P := Rp.InP (m + 1)) (fun b _ => tre_in S hS m b) _ _ u hu⟩
end Go.Proofs.YtoalnfkjpdgbiaaDoor
