/-
  Plain mathematics: the order of floats and of members.
-/
import Derived.Test.YtapehjlpiobeaaaFloats
import Derived.Test.YtapehjlpiobeaaaDictTale
namespace Go.Proofs.Ytapehjlpiobeaaa
open Go.RowKit Go.Shelf
/-- where a float stands: below, among or above the numbers, and there -/
def fk (x : Nat) : Int × Int :=
  match Ieee.double.read x with
  | .number s m i => (0, Ieee.signed s m (i - Ieee.double.leastPlace).toNat)
  | .infinity s => (if s then -1 else 1, 0)
  | .nan _ _ => (2, 0)
def ko (p q : Int × Int) : Ordering := if p.1 < q.1 then .lt else if q.1 < p.1 then .gt else if p.2 < q.2 then .lt else if q.2 < p.2 then .gt else .eq
theorem read_place {x : Nat} {s : Bool} {m : Nat} {i : Int} (h : Ieee.double.read x = .number s m i) : Ieee.double.leastPlace ≤ i := by
  unfold Ieee.Format.read at h
  simp only at h
  split at h
  · cases h; exact Int.le_refl _
  · split at h
    · cases h; omega
    · split at h <;> cases h
theorem signed_up (s : Bool) (m u k : Nat) : Ieee.signed s m (u + k) = Ieee.signed s m u * ((2 ^ k : Nat) : Int) := by
  unfold Ieee.signed
  have e : m <<< (u + k) = m <<< u * 2 ^ k := by rw [Nat.shiftLeft_eq, Nat.shiftLeft_eq, Nat.pow_add, Nat.mul_assoc]
  rw [e]
  split
  · rw [Int.natCast_mul, Int.neg_mul]
  · rw [Int.natCast_mul]
theorem cmp_ko (A B : Int) : compare A B = ko (0, A) (0, B) := by
  show compareOfLessAndEq A B = _
  unfold compareOfLessAndEq ko
  by_cases h1 : A < B
  · simp [h1]
  · by_cases h2 : A = B
    · subst h2; simp
    · have : B < A := by omega
      simp [h1, h2, this]
theorem ko_mul (A B : Int) (c : Nat) (hc : 0 < c) : ko (0, A * (c : Int)) (0, B * (c : Int)) = ko (0, A) (0, B) := by
  have hc' : (0 : Int) < (c : Int) := by omega
  unfold ko
  simp only [Int.lt_irrefl, if_false]
  have h1 : A * (c : Int) < B * (c : Int) ↔ A < B := Int.mul_lt_mul_right hc'
  have h2 : B * (c : Int) < A * (c : Int) ↔ B < A := Int.mul_lt_mul_right hc'
  simp only [h1, h2]
theorem order_key {x y : Nat} (hx : isNan x = false) (hy : isNan y = false) : Ieee.double.order x y = some (ko (fk x) (fk y)) := by
  unfold Ieee.Format.order fk
  unfold isNan at hx hy
  cases ex : Ieee.double.read x with
  | nan s f => rw [ex] at hx; cases hx
  | infinity s =>
    cases ey : Ieee.double.read y with
    | nan s f => rw [ey] at hy; cases hy
    | infinity t => cases s <;> cases t <;> rfl
    | number t n j => cases s <;> simp [Ieee.Datum.order, ko]
  | number s m i =>
    cases ey : Ieee.double.read y with
    | nan s f => rw [ey] at hy; cases hy
    | infinity t => cases t <;> simp [Ieee.Datum.order, ko]
    | number t n j =>
      have hi := read_place ex
      have hj := read_place ey
      generalize Ieee.double.leastPlace = lp at hi hj
      simp only [Ieee.Datum.order]
      rw [cmp_ko]
      have e1 : (i - lp).toNat = (i - min i j).toNat + (min i j - lp).toNat := by omega
      have e2 : (j - lp).toNat = (j - min i j).toNat + (min i j - lp).toNat := by omega
      rw [e1, e2, signed_up, signed_up, ko_mul _ _ _ (Nat.pow_pos (by decide))]
/-- is the one less; are they equal? -/
def flt (x y : Nat) : Bool := decide (Ieee.double.order x y = some .lt)
def feq (x y : Nat) : Bool := decide (Ieee.double.order x y = some .eq)
theorem flt_key {x y : Nat} (hx : isNan x = false) (hy : isNan y = false) : flt x y = true ↔ (fk x).1 < (fk y).1 ∨ ((fk x).1 = (fk y).1 ∧ (fk x).2 < (fk y).2) := by
  unfold flt
  rw [order_key hx hy, decide_eq_true_eq, Option.some.injEq]
  unfold ko
  repeat' split
  all_goals simp
  all_goals omega
theorem feq_key {x y : Nat} (hx : isNan x = false) (hy : isNan y = false) : feq x y = true ↔ (fk x).1 = (fk y).1 ∧ (fk x).2 = (fk y).2 := by
  unfold feq
  rw [order_key hx hy, decide_eq_true_eq, Option.some.injEq]
  unfold ko
  repeat' split
  all_goals simp
  all_goals omega
/-- texts by their bytes -/
def tls (a b : ByteArray) : Bool := Op.bytesLess a.toList b.toList
theorem less_is : ∀ (x y : List UInt8), Op.bytesLess x y = decide (x < y)
  | [], [] => by simp [Op.bytesLess]
  | _ :: _, [] => by simp [Op.bytesLess]
  | [], _ :: _ => by simp [Op.bytesLess]
  | a :: x, b :: y => by
    rw [Op.bytesLess, less_is x y]
    simp only [List.cons_lt_cons_iff]
    by_cases h1 : a < b <;> by_cases h2 : a = b <;> by_cases h3 : x < y <;> simp [h1, h2, h3]
theorem tl_inj {x y : ByteArray} (h : x.toList = y.toList) : x = y := by
  rw [ByteArray.toList_eq, ByteArray.toList_eq] at h
  obtain ⟨⟨a⟩⟩ := x
  obtain ⟨⟨b⟩⟩ := y
  simp only at h
  rw [h]
theorem tls_irr (a : ByteArray) : tls a a = false := by unfold tls; rw [less_is]; simp [List.lt_irrefl]
theorem tls_trans {a b c : ByteArray} (h : tls a b = true) (g : tls b c = true) : tls a c = true := by
  unfold tls at *
  rw [less_is, decide_eq_true_eq] at *
  exact List.lt_trans h g
theorem tls_tot {a b : ByteArray} (h : tls a b = false) (g : tls b a = false) : a = b := by
  unfold tls at *
  rw [less_is, decide_eq_false_iff_not, List.not_lt] at *
  exact tl_inj (List.le_antisymm g h)
/-- does one stand ahead of another? -/
def ahd (a b : Ent) : Bool := flt a.2 b.2 || (feq a.2 b.2 && tls a.1 b.1)
def Num (e : Ent) : Prop := isNan e.2 = false
theorem ahd_irr {a : Ent} (ha : Num a) : ahd a a = false := by
  unfold ahd
  have h1 : flt a.2 a.2 = false := by
    cases h : flt a.2 a.2 with
    | false => rfl
    | true => have := (flt_key ha ha).1 h; omega
  rw [h1, tls_irr]; simp
theorem ahd_trans {a b c : Ent} (ha : Num a) (hb : Num b) (hc : Num c) (h : ahd a b = true) (g : ahd b c = true) : ahd a c = true := by
  unfold ahd at *
  rw [Bool.or_eq_true, Bool.and_eq_true] at *
  rw [flt_key ha hb, feq_key ha hb] at h
  rw [flt_key hb hc, feq_key hb hc] at g
  rw [flt_key ha hc, feq_key ha hc]
  rcases h with h | ⟨h, h'⟩ <;> rcases g with g | ⟨g, g'⟩
  · left; omega
  · left; omega
  · left; omega
  · right; exact ⟨by omega, tls_trans h' g'⟩
theorem ahd_tot {a b : Ent} (ha : Num a) (hb : Num b) (h : ahd a b = false) (g : ahd b a = false) : feq a.2 b.2 = true ∧ a.1 = b.1 := by
  unfold ahd at *
  rw [Bool.or_eq_false_iff] at *
  have n1 : ¬ flt a.2 b.2 = true := by rw [h.1]; simp
  have n2 : ¬ flt b.2 a.2 = true := by rw [g.1]; simp
  rw [flt_key ha hb] at n1
  rw [flt_key hb ha] at n2
  have e1 : feq a.2 b.2 = true := (feq_key ha hb).2 (by omega)
  have e2 : feq b.2 a.2 = true := (feq_key hb ha).2 (by omega)
  have h2 := h.2
  have g2 := g.2
  rw [e1, Bool.true_and] at h2
  rw [e2, Bool.true_and] at g2
  exact ⟨e1, tls_tot h2 g2⟩
theorem ahd_asym {a b : Ent} (ha : Num a) (hb : Num b) (h : ahd a b = true) : ahd b a = false := by
  cases g : ahd b a with
  | false => rfl
  | true => have := ahd_trans ha hb ha h g; rw [ahd_irr ha] at this; cases this
/-- a is not ahead of b, c is not ahead of b's follower: what is behind stays behind -/
theorem ahd_of_not {a b c : Ent} (ha : Num a) (hb : Num b) (hc : Num c) (h : ahd a b = true) (g : ahd b c = false → False) : ahd a c = true := by
  cases e : ahd b c with
  | false => exact (g e).elim
  | true => exact ahd_trans ha hb hc h e
/-- a row that rises, of numbers alone -/
def Ris (l : List Ent) : Prop := l.Pairwise (fun a b => ahd a b = true) ∧ ∀ e ∈ l, Num e
/-- a question that is answered yes by the first ones, no by all behind -/
def Pre (q : Ent → Bool) (l : List Ent) : Prop := ∃ l1 l2, l = l1 ++ l2 ∧ (∀ e ∈ l1, q e = true) ∧ ∀ e ∈ l2, q e = false
theorem pre_of {q : Ent → Bool} : ∀ {l : List Ent}, l.Pairwise (fun a b => q b = true → q a = true) → Pre q l := by
  intro l
  induction l with
  | nil => intro _; exact ⟨[], [], rfl, fun _ h => absurd h (by simp), fun _ h => absurd h (by simp)⟩
  | cons a l ih =>
    intro h
    rw [List.pairwise_cons] at h
    obtain ⟨l1, l2, rfl, h1, h2⟩ := ih h.2
    cases hq : q a with
    | true => exact ⟨a :: l1, l2, rfl, fun e he => by rcases List.mem_cons.1 he with rfl | he; exact hq; exact h1 e he, h2⟩
    | false =>
      refine ⟨[], a :: (l1 ++ l2), rfl, fun _ h => absurd h (by simp), fun e he => ?_⟩
      rcases List.mem_cons.1 he with rfl | he
      · exact hq
      · cases hh : q e with
        | false => rfl
        | true => have := h.1 e he hh; rw [hq] at this; cases this
theorem pre_ahd {l : List Ent} (hl : Ris l) {x : Ent} (hx : Num x) : Pre (fun e => ahd e x) l := by
  refine pre_of (List.Pairwise.imp_of_mem ?_ hl.1)
  intro a b ha hb hab h
  exact ahd_trans (hl.2 a ha) (hl.2 b hb) hx hab h
/-- what stands ahead of a member, and what behind -/
theorem ris_at {l1 l2 : List Ent} {x : Ent} (h : Ris (l1 ++ x :: l2)) : (∀ e ∈ l1, ahd e x = true) ∧ ∀ e ∈ l2, ahd x e = true := by
  have := h.1
  rw [List.pairwise_append, List.pairwise_cons] at this
  exact ⟨fun e he => this.2.2 e he x (by simp), this.2.1.1⟩
/-- a new member comes to its place -/
theorem ris_put {l1 l2 : List Ent} {x : Ent} (h : Ris (l1 ++ l2)) (hx : Num x) (h1 : ∀ e ∈ l1, ahd e x = true) (h2 : ∀ e ∈ l2, ahd e x = false) (hn : ∀ e ∈ l1 ++ l2, e.1 ≠ x.1) : Ris (l1 ++ x :: l2) := by
  obtain ⟨hp, hnum⟩ := h
  rw [List.pairwise_append] at hp
  refine ⟨?_, fun e he => ?_⟩
  · rw [List.pairwise_append, List.pairwise_cons]
    refine ⟨hp.1, ⟨fun e he => ?_, hp.2.1⟩, fun a ha b hb => ?_⟩
    · cases g : ahd x e with
      | true => rfl
      | false => exact absurd (ahd_tot (hnum e (by simp [he])) hx (h2 e he) g).2 (hn e (by simp [he]))
    · rcases List.mem_cons.1 hb with rfl | hb
      · exact h1 a ha
      · exact hp.2.2 a ha b hb
  · rcases List.mem_append.1 he with he | he
    · exact hnum e (by simp [he])
    · rcases List.mem_cons.1 he with rfl | he
      · exact hx
      · exact hnum e (by simp [he])
theorem ris_cut {l1 l2 : List Ent} {x : Ent} (h : Ris (l1 ++ x :: l2)) : Ris (l1 ++ l2) :=
  ⟨h.1.sublist (List.Sublist.append (List.Sublist.refl _) (List.sublist_cons_self _ _)), fun e he => h.2 e (by rcases List.mem_append.1 he with he | he <;> simp [he])⟩
/-- two parts of a row are told by the answers -/
theorem pre_eq {q : Ent → Bool} {l1 l2 m1 m2 : List Ent} (h : l1 ++ l2 = m1 ++ m2) (h1 : ∀ e ∈ l1, q e = true) (h2 : ∀ e ∈ l2, q e = false) (g1 : ∀ e ∈ m1, q e = true) (g2 : ∀ e ∈ m2, q e = false) : l1 = m1 ∧ l2 = m2 := by
  have c1 : (l1 ++ l2).countP q = l1.length := by rw [List.countP_append, List.countP_eq_length.2 h1, List.countP_eq_zero.2 (fun e he => by rw [h2 e he]; simp)]; rfl
  have c2 : (m1 ++ m2).countP q = m1.length := by rw [List.countP_append, List.countP_eq_length.2 g1, List.countP_eq_zero.2 (fun e he => by rw [g2 e he]; simp)]; rfl
  have : l1.length = m1.length := by rw [← c1, ← c2, h]
  exact List.append_inj h this
theorem pre_count {q : Ent → Bool} {l1 l2 : List Ent} (h1 : ∀ e ∈ l1, q e = true) (h2 : ∀ e ∈ l2, q e = false) : (l1 ++ l2).countP q = l1.length := by
  rw [List.countP_append, List.countP_eq_length.2 h1, List.countP_eq_zero.2 (fun e he => by rw [h2 e he]; simp)]; rfl
end Go.Proofs.Ytapehjlpiobeaaa
