/-
  Plain mathematics on patterns: the signs of a pattern, what each means, and which rows of bytes they mean together; no program in sight.
-/
import Derived.WalkKit
namespace Go.Proofs.Ytmlpfijabdkbjaa
/-- a fact kept out of the walk's sight -/
def Kept (p : Prop) : Prop := p
theorem keep {p : Prop} (h : p) : Kept p := h
theorem Kept.out {p : Prop} (h : Kept p) : p := h
namespace Gb
/-- the byte that is meant at the front of a row, and what stands behind it -/
def rb : List UInt8 → UInt8 × List UInt8
  | [] => (0, [])
  | [c] => (c, [])
  | c :: d :: r => if c = 92 then (d, r) else (c, d :: r)
theorem rb_len {l : List UInt8} (h : l ≠ []) : (rb l).2.length < l.length := by
  match l, h with
  | [c], _ => simp [rb]
  | c :: d :: r, _ =>
    simp only [rb]
    split <;> simp
    omega
/-- what stands within a set, and behind it -/
def setCut : List UInt8 → List UInt8 × List UInt8
  | [] => ([], [])
  | [c] => if c = 93 then ([], []) else ([c], [])
  | c :: d :: r => if c = 93 then ([], d :: r) else if c = 92 then (c :: d :: (setCut r).1, (setCut r).2) else (c :: (setCut (d :: r)).1, (setCut (d :: r)).2)
theorem setCut_len (l : List UInt8) : (setCut l).2.length ≤ l.length := by
  suffices H : ∀ (n : Nat) (l : List UInt8), l.length ≤ n → (setCut l).2.length ≤ l.length from H _ l (Nat.le_refl _)
  intro n
  induction n with
  | zero =>
    intro l hl
    have : l = [] := List.length_eq_zero_iff.1 (by omega)
    subst this
    simp [setCut]
  | succ n ih =>
    intro l hl
    match l, hl with
    | [], _ => simp [setCut]
    | [c], _ => unfold setCut; split <;> simp
    | c :: d :: r, hl =>
      have h1 := ih r (by simp at hl; omega)
      have h2 := ih (d :: r) (by simp at hl ⊢; omega)
      simp only [setCut]
      split
      · simp
      · split
        · simp; omega
        · simp at h2 ⊢; omega
/-- the next item or range of a set: its two ends, and what stands behind it -/
def step (l : List UInt8) : UInt8 × UInt8 × List UInt8 :=
  match (rb l).2 with
  | x :: y :: r => if x = 45 then ((rb l).1, (rb (y :: r)).1, (rb (y :: r)).2) else ((rb l).1, (rb l).1, x :: y :: r)
  | r => ((rb l).1, (rb l).1, r)
theorem step_len {l : List UInt8} (h : l ≠ []) : (step l).2.2.length < l.length := by
  have h1 := rb_len h
  unfold step
  generalize hr : (rb l).2 = r at h1
  match r with
  | [] => exact h1
  | [x] => exact h1
  | x :: y :: r =>
    simp only
    split
    · have h2 := rb_len (l := y :: r) (by simp)
      simp at h1 h2 ⊢
      omega
    · exact h1
def btw (a c b : UInt8) : Bool := decide (min a.toNat c.toNat ≤ b.toNat ∧ b.toNat ≤ max a.toNat c.toNat)
/-- whether the items name the byte, at most so many of them -/
def namesF (b : UInt8) : Nat → List UInt8 → Bool
  | 0, _ => false
  | n + 1, l => if l = [] then false else btw (step l).1 (step l).2.1 b || namesF b n (step l).2.2
def names (b : UInt8) (l : List UInt8) : Bool := namesF b l.length l
theorem namesF_more (b : UInt8) (n : Nat) : ∀ (m : Nat) (l : List UInt8), l.length ≤ n → l.length ≤ m → namesF b n l = namesF b m l := by
  induction n with
  | zero =>
    intro m l hl _
    have : l = [] := List.length_eq_zero_iff.1 (by omega)
    subst this
    cases m <;> rfl
  | succ n ih =>
    intro m l hn hm
    by_cases h : l = []
    · subst h; cases m <;> rfl
    · have hs := step_len h
      cases m with
      | zero => exact absurd (List.length_eq_zero_iff.1 (by omega)) h
      | succ m =>
        simp only [namesF]
        rw [if_neg h, if_neg h, ih m _ (by omega) (by omega)]
theorem names_nil (b : UInt8) : names b [] = false := rfl
theorem names_cons (b : UInt8) {l : List UInt8} (h : l ≠ []) : names b l = (btw (step l).1 (step l).2.1 b || names b (step l).2.2) := by
  have hs := step_len h
  unfold names
  generalize hn : l.length = n at hs
  cases n with
  | zero => omega
  | succ n =>
    simp only [namesF]
    rw [if_neg h, namesF_more b n _ _ (by omega) (Nat.le_refl _)]
/-- whether a set means the byte -/
def setM (l : List UInt8) (b : UInt8) : Bool := if l.head? = some 94 then !names b l.tail else names b l
/-- a sign: a star, any byte, one byte, or a set -/
abbrev Sg : Type := Option (Option (UInt8 ⊕ List UInt8))
abbrev Sg.star : Sg := none
abbrev Sg.any : Sg := some none
abbrev Sg.byte (b : UInt8) : Sg := some (some (.inl b))
abbrev Sg.set (l : List UInt8) : Sg := some (some (.inr l))
def Sg.means : Sg → UInt8 → Bool
  | none, _ => true
  | some none, _ => true
  | some (some (.inl b)), x => x == b
  | some (some (.inr l)), x => setM l x
def Sg.isStar : Sg → Bool
  | none => true
  | some _ => false
/-- the first sign of a pattern, and what stands behind it -/
def rs : List UInt8 → Sg × List UInt8
  | [] => (.any, [])
  | c :: r => if c = 42 then (.star, r) else if c = 63 then (.any, r) else if c = 91 then (.set (setCut r).1, (setCut r).2) else (.byte (rb (c :: r)).1, (rb (c :: r)).2)
theorem rs_len {l : List UInt8} (h : l ≠ []) : (rs l).2.length < l.length := by
  match l, h with
  | c :: r, _ =>
    simp only [rs]
    split
    · simp
    · split
      · simp
      · split
        · have := setCut_len r
          simp; omega
        · exact rb_len (by simp)
def sgsF : Nat → List UInt8 → List Sg
  | 0, _ => []
  | n + 1, l => if l = [] then [] else (rs l).1 :: sgsF n (rs l).2
/-- the signs of a pattern -/
def sgs (l : List UInt8) : List Sg := sgsF l.length l
theorem sgsF_more (n : Nat) : ∀ (m : Nat) (l : List UInt8), l.length ≤ n → l.length ≤ m → sgsF n l = sgsF m l := by
  induction n with
  | zero =>
    intro m l hl _
    have : l = [] := List.length_eq_zero_iff.1 (by omega)
    subst this
    cases m <;> rfl
  | succ n ih =>
    intro m l hn hm
    by_cases h : l = []
    · subst h; cases m <;> rfl
    · have hs := rs_len h
      cases m with
      | zero => exact absurd (List.length_eq_zero_iff.1 (by omega)) h
      | succ m =>
        simp only [sgsF]
        rw [if_neg h, if_neg h, ih m _ (by omega) (by omega)]
theorem sgs_nil : sgs [] = [] := rfl
theorem sgs_cons {l : List UInt8} (h : l ≠ []) : sgs l = (rs l).1 :: sgs (rs l).2 := by
  have hs := rs_len h
  unfold sgs
  generalize hn : l.length = n at hs
  cases n with
  | zero => omega
  | succ n =>
    simp only [sgsF]
    rw [if_neg h, sgsF_more n _ _ (by omega) (Nat.le_refl _)]
/-- whether the signs mean the row -/
def M : List Sg → List UInt8 → Bool
  | [], t => t.isEmpty
  | none :: p, t => (List.range (t.length + 1)).any fun k => M p (t.drop k)
  | some none :: p, t => match t with | [] => false | _ :: r => M p r
  | some (some (.inl b)) :: p, t => match t with | [] => false | c :: r => c == b && M p r
  | some (some (.inr l)) :: p, t => match t with | [] => false | c :: r => setM l c && M p r
theorem M_star {p : List Sg} {t : List UInt8} : M (.star :: p) t = true ↔ ∃ k, M p (t.drop k) = true := by
  simp only [M, List.any_eq_true, List.mem_range]
  constructor
  · rintro ⟨k, _, h⟩; exact ⟨k, h⟩
  · rintro ⟨k, h⟩
    by_cases hk : k < t.length + 1
    · exact ⟨k, hk, h⟩
    · refine ⟨t.length, by omega, ?_⟩
      rw [List.drop_of_length_le (by omega)] at h
      rw [List.drop_length]; exact h
theorem M_one_nil {g : Sg} {p : List Sg} (hg : g.isStar = false) : M (g :: p) [] = false := by
  rcases g with _ | _ | _ | _ <;> first | rfl | cases hg
theorem M_one_cons {g : Sg} {p : List Sg} (hg : g.isStar = false) (c : UInt8) (r : List UInt8) : M (g :: p) (c :: r) = (g.means c && M p r) := by
  rcases g with _ | _ | _ | _ <;> first | rfl | cases hg | simp [M, Sg.means]
/-- as many bytes at least as signs that are no star -/
def need (p : List Sg) : Nat := (p.filter fun g => !g.isStar).length
theorem need_cons_one {g : Sg} {p : List Sg} (hg : g.isStar = false) : need (g :: p) = need p + 1 := by
  simp [need, hg]
theorem need_star {p : List Sg} : need (.star :: p) = need p := by
  simp [need, Sg.isStar]
theorem need_app (p q : List Sg) : need (p ++ q) = need p + need q := by simp [need]
theorem M_need {p : List Sg} {t : List UInt8} (h : M p t = true) : need p ≤ t.length := by
  induction p generalizing t with
  | nil => simp [need]
  | cons g p ih =>
    cases hg : g.isStar
    · rw [need_cons_one hg]
      cases t with
      | nil => rw [M_one_nil hg] at h; cases h
      | cons c r =>
        rw [M_one_cons hg, Bool.and_eq_true] at h
        have := ih h.2
        simp; omega
    · have e : g = .star := by rcases g with _ | _ <;> first | rfl | cases hg
      subst e
      obtain ⟨k, hk⟩ := M_star.1 h
      have := ih hk
      rw [need_star]
      simp at this
      omega
/-- signs without a star, against a row of just their length -/
def fits : List Sg → List UInt8 → Bool
  | [], [] => true
  | g :: p, c :: r => !g.isStar && g.means c && fits p r
  | _, _ => false
theorem fits_len {p : List Sg} {t : List UInt8} (h : fits p t = true) : p.length = t.length ∧ need p = t.length := by
  induction p generalizing t with
  | nil => cases t with
    | nil => exact ⟨rfl, rfl⟩
    | cons c r => simp [fits] at h
  | cons g p ih => cases t with
    | nil => simp [fits] at h
    | cons c r =>
      simp only [fits, Bool.and_eq_true, Bool.not_eq_true'] at h
      obtain ⟨⟨h1, h2⟩, h3⟩ := h
      have := ih h3
      rw [need_cons_one h1]
      simp; omega
theorem M_fits {p q : List Sg} {a t : List UInt8} (h : fits p a = true) : M (p ++ q) (a ++ t) = M q t := by
  induction p generalizing a with
  | nil => cases a with
    | nil => rfl
    | cons c r => simp [fits] at h
  | cons g p ih => cases a with
    | nil => simp [fits] at h
    | cons c r =>
      simp only [fits, Bool.and_eq_true, Bool.not_eq_true'] at h
      obtain ⟨⟨h1, h2⟩, h3⟩ := h
      rw [List.cons_append, List.cons_append, M_one_cons h1, h2, Bool.true_and, ih h3]
theorem fits_snoc {p : List Sg} {a : List UInt8} {g : Sg} {c : UInt8} (h : fits p a = true) (h1 : g.isStar = false) (h2 : g.means c = true) : fits (p ++ [g]) (a ++ [c]) = true := by
  induction p generalizing a with
  | nil => cases a with
    | nil => simp [fits, h1, h2]
    | cons c r => simp [fits] at h
  | cons g p ih => cases a with
    | nil => simp [fits] at h
    | cons c r =>
      simp only [fits, Bool.and_eq_true] at h
      simp only [List.cons_append, fits, Bool.and_eq_true]
      exact ⟨h.1, ih h.2⟩
/-- what is meant by signs without a star and then others is cut behind the first's length -/
theorem M_cut {p q : List Sg} {t : List UInt8} (hp : p.all (fun g => !g.isStar) = true) (h : M (p ++ q) t = true) : M q (t.drop p.length) = true := by
  induction p generalizing t with
  | nil => exact h
  | cons g p ih =>
    rw [List.all_cons, Bool.and_eq_true, Bool.not_eq_true'] at hp
    cases t with
    | nil => rw [List.cons_append, M_one_nil hp.1] at h; cases h
    | cons c r =>
      rw [List.cons_append, M_one_cons hp.1, Bool.and_eq_true] at h
      exact ih hp.2 h.2
theorem fits_all {p : List Sg} {a : List UInt8} (h : fits p a = true) : p.all (fun g => !g.isStar) = true := by
  induction p generalizing a with
  | nil => rfl
  | cons g p ih => cases a with
    | nil => simp [fits] at h
    | cons c r =>
      simp only [fits, Bool.and_eq_true] at h
      rw [List.all_cons, Bool.and_eq_true]
      exact ⟨h.1.1, ih h.2⟩
/-- a later star makes the one before it forget -/
theorem greedy {p q : List Sg} {a t : List UInt8} (h : fits p a = true) : M (.star :: (p ++ .star :: q)) (a ++ t) = M (.star :: q) t := by
  have e : ∀ x y : Bool, (x = true ↔ y = true) → x = y := by intro x y; cases x <;> cases y <;> simp
  apply e
  constructor
  · intro hm
    obtain ⟨k, hk⟩ := M_star.1 hm
    have h2 := M_cut (fits_all h) hk
    obtain ⟨j, hj⟩ := M_star.1 h2
    have hl := (fits_len h).1
    rw [List.drop_drop, List.drop_drop, hl] at hj
    have : (a ++ t).drop (k + (a.length + j)) = t.drop (k + j) := by
      rw [show k + (a.length + j) = a.length + (k + j) from by omega, ← List.drop_drop, List.drop_left]
    rw [this] at hj
    exact M_star.2 ⟨k + j, hj⟩
  · intro hm
    refine M_star.2 ⟨0, ?_⟩
    rw [List.drop_zero, M_fits h]
    exact hm
/-- the star takes one byte more -/
theorem star_step {p : List Sg} {c : UInt8} {t : List UInt8} (h : M p (c :: t) = false) : M (.star :: p) (c :: t) = M (.star :: p) t := by
  have e : ∀ x y : Bool, (x = true ↔ y = true) → x = y := by intro x y; cases x <;> cases y <;> simp
  apply e
  constructor
  · intro hm
    obtain ⟨k, hk⟩ := M_star.1 hm
    cases k with
    | zero => rw [List.drop_zero, h] at hk; cases hk
    | succ k => exact M_star.2 ⟨k, hk⟩
  · intro hm
    obtain ⟨k, hk⟩ := M_star.1 hm
    exact M_star.2 ⟨k + 1, hk⟩
theorem star_yes {p : List Sg} {t : List UInt8} (h : M p t = true) : M (.star :: p) t = true := M_star.2 ⟨0, h⟩
/-- too few bytes are left -/
theorem star_short {p q : List Sg} {a : List UInt8} {g : Sg} (h : fits p a = true) (hg : g.isStar = false) : M (.star :: (p ++ g :: q)) a = false := by
  apply Decidable.byContradiction
  intro hn
  have hn' : M (.star :: (p ++ g :: q)) a = true := by simpa using hn
  have h1 := M_need hn'
  rw [need_star, need_app, need_cons_one hg, (fits_len h).2] at h1
  omega
end Gb
end Go.Proofs.Ytmlpfijabdkbjaa
