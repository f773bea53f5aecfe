/-
  The statements' own nodes, and the reply that is made out of a list of them.
-/
import Derived.Test.YtoalnfkjpdgbiaaDoorRpArr
namespace Go.Proofs.YtoalnfkjpdgbiaaDoor
open Go.RowKit
set_option linter.unusedVariables false
structure Nd where
  k : Int
  s : ByteArray
  i : Int
  n : Int
def NdAt (w : World) (a : Addr) (o : Nd) : Prop :=
  w.cell? a = some (.int .i64 o.k) ∧ w.cell? ⟨a.block, a.off + 1, none⟩ = some (.string o.s) ∧ w.cell? ⟨a.block, a.off + 2, none⟩ = some (.int .i64 o.i) ∧ w.cell? ⟨a.block, a.off + 3, none⟩ = some (.int .i64 o.n)
def Nd.ok (o : Nd) : Prop := o.s.size ≤ 1048576 ∧ I64 o.k ∧ I64 o.i ∧ I64 o.n
/-- the nodes that came in -/
def Nds (w : World) (so : Option Addr) (S : List Nd) : Prop :=
  ∀ j (h : j < S.length), ∃ a, so = some a ∧ a.block < w.heap.size ∧ S[j].ok ∧ NdAt w (a.add (j * 4)) S[j]
theorem addr_block (a : Addr) (j : Nat) : (a.add j).block = a.block := by unfold Addr.add; split <;> rfl
theorem NdAt.bel {w w' : World} {B : Nat} {a : Addr} {o : Nd} (h : NdAt w a o) (hb : Below B w w') (ha : a.block < B) : NdAt w' a o :=
  ⟨(hb.cell ha).trans h.1, (hb.cell (p := ⟨a.block, a.off + 1, none⟩) ha).trans h.2.1, (hb.cell (p := ⟨a.block, a.off + 2, none⟩) ha).trans h.2.2.1, (hb.cell (p := ⟨a.block, a.off + 3, none⟩) ha).trans h.2.2.2⟩
theorem Nds.bel {w w' : World} {so : Option Addr} {S : List Nd} (h : Nds w so S) (hb : Below w.heap.size w w') : Nds w' so S := fun j hj => by
  obtain ⟨a, q1, q2, q3, q4⟩ := h j hj
  exact ⟨a, q1, Nat.lt_of_lt_of_le q2 hb.size, q3, q4.bel hb (by rw [addr_block]; exact q2)⟩
/-- so many, one behind the other -/
def kids {α : Type} (D : Nat → α × Nat) (len : Nat) : Nat → Nat → List α × Nat
  | 0, at' => ([], at')
  | k + 1, at' => if at' < len then ((D at').1 :: (kids D len k (D at').2).1, (kids D len k (D at').2).2) else ([], at')
/-- the reply of the node at a place -/
def tre (S : List Nd) : (m : Nat) → Nat → Rp.T (m + 1) × Nat
  | 0, at' => match S[at']? with
    | none => ((5, .empty, 0, []), at')
    | some o => ((o.k, o.s, o.i, []), at' + 1)
  | m + 1, at' => match S[at']? with
    | none => ((5, .empty, 0, []), at')
    | some o => ((o.k, o.s, o.i, (kids (tre S m) S.length o.n.toNat (at' + 1)).1), (kids (tre S m) S.length o.n.toNat (at' + 1)).2)
theorem kids_le {α : Type} {D : Nat → α × Nat} {len : Nat} (h : ∀ a, a < len → a < (D a).2 ∧ (D a).2 ≤ len) : ∀ (k a : Nat), a ≤ len → a ≤ (kids D len k a).2 ∧ (kids D len k a).2 ≤ len
  | 0, a, ha => ⟨Nat.le_refl _, ha⟩
  | k + 1, a, ha => by
    unfold kids
    split
    · rename_i hl
      obtain ⟨h1, h2⟩ := h a hl
      obtain ⟨h3, h4⟩ := kids_le h k (D a).2 h2
      exact ⟨by show a ≤ (kids D len k (D a).2).2; omega, h4⟩
    · exact ⟨Nat.le_refl _, ha⟩
theorem tre_le (S : List Nd) : ∀ (m a : Nat), a < S.length → a < (tre S m a).2 ∧ (tre S m a).2 ≤ S.length
  | 0, a, ha => by
    unfold tre
    rw [List.getElem?_eq_getElem ha]
    exact ⟨Nat.lt_succ_self _, ha⟩
  | m + 1, a, ha => by
    have := kids_le (D := tre S m) (len := S.length) (fun x hx => tre_le S m x hx) S[a].n.toNat (a + 1) ha
    unfold tre
    rw [List.getElem?_eq_getElem ha]
    exact ⟨by show a < (kids (tre S m) S.length S[a].n.toNat (a + 1)).2; omega, this.2⟩
/-- one round of the loop -/
theorem kids_more {α : Type} {D : Nat → α × Nat} {len k a : Nat} (h : a < len) (ts : List α) : (ts ++ (kids D len (k + 1) a).1, (kids D len (k + 1) a).2) = ((ts ++ [(D a).1]) ++ (kids D len k (D a).2).1, (kids D len k (D a).2).2) := by
  simp [kids, h]
theorem kids_done {α : Type} {D : Nat → α × Nat} {len k a : Nat} (h : k = 0 ∨ ¬ a < len) : kids D len k a = ([], a) := by
  rcases h with rfl | h
  · rfl
  · cases k with
    | zero => rfl
    | succ k => simp [kids, h]
theorem kids_len {α : Type} {D : Nat → α × Nat} {len : Nat} (h : ∀ a, a < len → a < (D a).2 ∧ (D a).2 ≤ len) : ∀ (k a : Nat), a ≤ len → (kids D len k a).1.length + a ≤ len
  | 0, a, ha => by show 0 + a ≤ len; omega
  | k + 1, a, ha => by
    unfold kids
    split
    · rename_i hl
      obtain ⟨h1, h2⟩ := h a hl
      have := kids_len h k (D a).2 h2
      show (kids D len k (D a).2).1.length + 1 + a ≤ len
      omega
    · show 0 + a ≤ len; omega
end Go.Proofs.YtoalnfkjpdgbiaaDoor
