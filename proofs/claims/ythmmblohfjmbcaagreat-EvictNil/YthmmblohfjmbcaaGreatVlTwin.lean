/-
  Contracts over this program: whether two of a row have one name.
-/
import Derived.Test.YthmmblohfjmbcaaGreatProg
import Derived.WalkKit
import Derived.Laws.FloatArith
import Derived.WalkLawsBesides
import Derived.Test.YthmmblohfjmbcaaGreatDraws
import Derived.Below
import Derived.OwnWalk
import Derived.Deep.AppendLies
import Derived.Deep.RegionHeld3
import Derived.Shelf.RegionOpen
import Derived.Deep.QuietTactic
import Derived.BigQuiet
import Derived.Laws.StructEq
import Derived.Maps.OwnSet
import Derived.Maps.OwnIn
import Derived.Maps.Views
/-
  What comparisons of two binary64 words answer, where one of them is no number and where none is; that what the model draws for an invalid sum is no number.
-/
namespace Go.Proofs.YthmmblohfjmbcaaGreat
open Go

def isNan (x : Nat) : Bool := (Ieee.double.read x).isNaN

theorem order_of_nan {x y : Nat} (h : isNan x = true ∨ isNan y = true) : Ieee.double.order x y = none := by
  unfold isNan at h
  unfold Ieee.Format.order
  generalize Ieee.double.read x = a at h
  generalize Ieee.double.read y = b at h
  cases a <;> cases b <;> simp [Ieee.Datum.isNaN, Ieee.Datum.order] at *

theorem order_of_num {x y : Nat} (hx : isNan x = false) (hy : isNan y = false) : ∃ o, Ieee.double.order x y = some o := by
  unfold isNan at hx hy
  unfold Ieee.Format.order
  generalize Ieee.double.read x = a at hx
  generalize Ieee.double.read y = b at hy
  cases a <;> cases b <;> simp [Ieee.Datum.isNaN, Ieee.Datum.order] at *

theorem order_self {x : Nat} (hx : isNan x = false) : Ieee.double.order x x = some .eq := by
  unfold isNan at hx
  unfold Ieee.Format.order
  generalize Ieee.double.read x = a at hx
  cases a <;> simp [Ieee.Datum.isNaN, Ieee.Datum.order] at *

theorem nan_drawn (t : Nat) (x y : Nat) : isNan ((Question.nanBits .f64 x y).cut t) = true := by
  have h1 : (t / 2) % (2 ^ 52 - 1) < 2 ^ 52 - 1 := Nat.mod_lt _ (by decide)
  have h2 : t % 2 < 2 := Nat.mod_lt _ (by decide)
  have e : (Question.nanBits .f64 x y).cut t = (t % 2) * 2 ^ 63 + 0x7ff0000000000000 + 1 + (t / 2) % (2 ^ 52 - 1) := rfl
  rw [e]
  generalize (t / 2) % (2 ^ 52 - 1) = r at *
  generalize t % 2 = s at *
  have hs : (s * 2 ^ 63 + 0x7ff0000000000000 + 1 + r) % 9223372036854775808 = 0x7ff0000000000001 + r := by omega
  unfold isNan Ieee.Format.read
  have sw : Ieee.double.signWeight = 9223372036854775808 := by decide
  have bn : Ieee.double.binade = 4503599627370496 := by decide
  have ir : Ieee.double.infRung = 9218868437227405312 := by decide
  simp only [sw, bn, ir, hs]
  rw [if_neg (by omega), if_neg (by omega), if_neg (by omega)]
  rfl

theorem format_f64 : FloatKind.f64.format = Ieee.double := rfl

end Go.Proofs.YthmmblohfjmbcaaGreat

/-
  Values as plain data: what is refused, and that the order of rows does not matter for it.
-/
namespace Go.Proofs.YthmmblohfjmbcaaGreat
namespace Vl
/-- plain data: a kind, a text, texts, pairs, members with their scores' bits -/
structure Dt where
  kind : Int
  text : ByteArray
  items : List ByteArray
  pairs : List (ByteArray × ByteArray)
  ranks : List (ByteArray × Nat)
/-- nothing stands where the kind has no use for it -/
def Fit (d : Dt) : Prop :=
  (d.kind = 1 ∧ d.items = [] ∧ d.pairs = [] ∧ d.ranks = []) ∨ ((d.kind = 2 ∨ d.kind = 4) ∧ d.text.size = 0 ∧ d.pairs = [] ∧ d.ranks = []) ∨
  (d.kind = 3 ∧ d.text.size = 0 ∧ d.items = [] ∧ d.ranks = []) ∨ (d.kind = 5 ∧ d.text.size = 0 ∧ d.items = [] ∧ d.pairs = [])
def Twin (d : Dt) : Prop := (d.kind = 4 ∧ ¬ d.items.Nodup) ∨ ¬ (d.pairs.map Prod.fst).Nodup ∨ ¬ (d.ranks.map Prod.fst).Nodup
def Void (d : Dt) : Prop := ∃ e ∈ d.ranks, isNan e.2 = true
def Bad (d : Dt) : Prop := ¬ Fit d ∨ Twin d ∨ Void d
def Long (d : Dt) : Prop := 1048576 < d.text.size ∨ (∃ x ∈ d.items, 1048576 < x.size) ∨ (∃ x ∈ d.pairs, 1048576 < x.1.size ∨ 1048576 < x.2.size) ∨ ∃ x ∈ d.ranks, 1048576 < x.1.size
def Full (d : Dt) : Prop := 1048576 < d.items.length ∨ 1048576 < d.pairs.length ∨ 1048576 < d.ranks.length
/-- c: why no value is made of it; 0: one is made -/
def Rfz (d : Dt) (c : Int) : Prop := (c = 3 ∧ Bad d) ∨ (c = 2 ∧ ¬ Bad d ∧ Long d) ∨ (c = 4 ∧ ¬ Bad d ∧ ¬ Long d ∧ Full d) ∨ (c = 0 ∧ ¬ Bad d ∧ ¬ Long d ∧ ¬ Full d)
theorem Rfz.one {d : Dt} {c c' : Int} (h : Rfz d c) (h' : Rfz d c') : c = c' := by
  unfold Rfz at h h'
  rcases h with ⟨rfl, a⟩ | ⟨rfl, a⟩ | ⟨rfl, a⟩ | ⟨rfl, a⟩ <;> rcases h' with ⟨rfl, b⟩ | ⟨rfl, b⟩ | ⟨rfl, b⟩ | ⟨rfl, b⟩ <;> simp_all
theorem rfz_ex (d : Dt) : ∃ c, Rfz d c := by
  unfold Rfz
  by_cases h1 : Bad d
  · exact ⟨3, .inl ⟨rfl, h1⟩⟩
  · by_cases h2 : Long d
    · exact ⟨2, .inr (.inl ⟨rfl, h1, h2⟩)⟩
    · by_cases h3 : Full d
      · exact ⟨4, .inr (.inr (.inl ⟨rfl, h1, h2, h3⟩))⟩
      · exact ⟨0, .inr (.inr (.inr ⟨rfl, h1, h2, h3⟩))⟩
theorem Rfz.codes {d : Dt} {c : Int} (h : Rfz d c) : c = 3 ∨ c = 2 ∨ c = 4 ∨ c = 0 := by
  unfold Rfz at h; rcases h with h | h | h | h
  · exact .inl h.1
  · exact .inr (.inl h.1)
  · exact .inr (.inr (.inl h.1))
  · exact .inr (.inr (.inr h.1))
theorem Rfz.ok {d : Dt} (h : Rfz d 0) : ¬ Bad d ∧ ¬ Long d ∧ ¬ Full d := by
  unfold Rfz at h
  rcases h with ⟨h, _⟩ | ⟨h, _⟩ | ⟨h, _⟩ | ⟨_, h⟩
  · exact absurd h (by decide)
  · exact absurd h (by decide)
  · exact absurd h (by decide)
  · exact h
theorem Rfz.bad {d : Dt} (h : Bad d) : Rfz d 3 := .inl ⟨rfl, h⟩
/-- the same data in another order -/
def Pm (d d' : Dt) : Prop := d'.kind = d.kind ∧ d'.text = d.text ∧ d'.items.Perm d.items ∧ d'.pairs.Perm d.pairs ∧ d'.ranks.Perm d.ranks
theorem Pm.refl (d : Dt) : Pm d d := ⟨rfl, rfl, .refl _, .refl _, .refl _⟩
theorem Pm.symm {d d' : Dt} (h : Pm d d') : Pm d' d := ⟨h.1.symm, h.2.1.symm, h.2.2.1.symm, h.2.2.2.1.symm, h.2.2.2.2.symm⟩
theorem nil_iff {α : Type} {l m : List α} (h : l.Perm m) : l = [] ↔ m = [] := by
  constructor
  · intro e; subst e; exact List.nil_perm.1 h
  · intro e; subst e; exact List.perm_nil.1 h
theorem Pm.bad {d d' : Dt} (h : Pm d d') (hb : Bad d) : Bad d' := by
  obtain ⟨h1, h2, h3, h4, h5⟩ := h
  unfold Bad Fit Twin Void at *
  rw [h1, h2, nil_iff h3, nil_iff h4, nil_iff h5, h3.nodup_iff, (h4.map Prod.fst).nodup_iff, (h5.map Prod.fst).nodup_iff]
  rcases hb with hb | hb | ⟨e, he, hn⟩
  · exact .inl hb
  · exact .inr (.inl hb)
  · exact .inr (.inr ⟨e, h5.symm.subset he, hn⟩)
theorem Pm.long {d d' : Dt} (h : Pm d d') (hb : Long d) : Long d' := by
  obtain ⟨h1, h2, h3, h4, h5⟩ := h
  unfold Long at *
  rw [h2]
  rcases hb with hb | ⟨e, he, hn⟩ | ⟨e, he, hn⟩ | ⟨e, he, hn⟩
  · exact .inl hb
  · exact .inr (.inl ⟨e, h3.symm.subset he, hn⟩)
  · exact .inr (.inr (.inl ⟨e, h4.symm.subset he, hn⟩))
  · exact .inr (.inr (.inr ⟨e, h5.symm.subset he, hn⟩))
theorem Pm.full {d d' : Dt} (h : Pm d d') (hb : Full d) : Full d' := by
  obtain ⟨h1, h2, h3, h4, h5⟩ := h
  unfold Full at *
  rw [h3.length_eq, h4.length_eq, h5.length_eq]
  exact hb
theorem Pm.rfz {d d' : Dt} (h : Pm d d') {c : Int} (hc : Rfz d c) : Rfz d' c := by
  unfold Rfz at *
  have b := h.symm
  rcases hc with ⟨e, q⟩ | ⟨e, q1, q2⟩ | ⟨e, q1, q2, q3⟩ | ⟨e, q1, q2, q3⟩
  · exact .inl ⟨e, h.bad q⟩
  · exact .inr (.inl ⟨e, fun x => q1 (b.bad x), h.long q2⟩)
  · exact .inr (.inr (.inl ⟨e, fun x => q1 (b.bad x), fun x => q2 (b.long x), h.full q3⟩))
  · exact .inr (.inr (.inr ⟨e, fun x => q1 (b.bad x), fun x => q2 (b.long x), fun x => q3 (b.full x)⟩))
/-- the rows the other way round -/
def turn (d : Dt) : Dt := ⟨d.kind, d.text, d.items.reverse, d.pairs.reverse, d.ranks.reverse⟩
theorem turn_pm (d : Dt) : Pm d (turn d) := ⟨rfl, rfl, List.reverse_perm _, List.reverse_perm _, List.reverse_perm _⟩
end Vl
end Go.Proofs.YthmmblohfjmbcaaGreat

/-
  Contracts over this program: what math.IsNaN, math.NaN, math.Inf answer; when two floats are alike.
-/
namespace Go.Proofs.YthmmblohfjmbcaaGreat
open Go.RowKit
/-- the same float, bit by bit, or both no number -/
def alk (a b : Nat) : Bool := if isNan a || isNan b then isNan a && isNan b else ((a : Int) == (b : Int))
theorem alk_self (a : Nat) : alk a a = true := by unfold alk; cases h : isNan a <;> simp
def nanB : Nat := 9221120237041090561
theorem isNan_nanB : isNan nanB = true := by decide +kernel
theorem isNan_zero : isNan 0 = false := by decide +kernel
def infB : Nat := 9218868437227405312
def ninfB : Nat := 18442240474082181120
theorem isNan_inf : isNan infB = false := by decide +kernel
theorem isNan_ninf : isNan ninfB = false := by decide +kernel
end Go.Proofs.YthmmblohfjmbcaaGreat

/-
  Contracts over this program: rows of texts, of pairs and of members with scores, in memory of their own; plain data that is the same.
-/
namespace Go.Proofs.YthmmblohfjmbcaaGreat
open Go.RowKit Go.Shelf
set_option linter.unusedVariables false
set_option linter.unusedSimpArgs false
namespace Vl
def enP (l : List (ByteArray × ByteArray)) : List Value := l.flatMap fun e => [.string e.1, .string e.2]
def enM (l : List (ByteArray × Nat)) : List Value := l.flatMap fun e => [.string e.1, .float .f64 e.2]
/-- rows of texts, of pairs, of members -/
def It (w : World) (v : Value) (l : List ByteArray) : Prop := w.ownsRow 0 9 1 v l.length (l.map Value.string)
def Pr (w : World) (v : Value) (l : List (ByteArray × ByteArray)) : Prop := w.ownsRow 0 211 2 v l.length (enP l)
def Ra (w : World) (v : Value) (l : List (ByteArray × Nat)) : Prop := w.ownsRow 0 214 2 v l.length (enM l)
theorem kept {w w' : World} {B e s : Nat} {v : Value} {n : Nat} {xs : List Value} (h : w.ownsRow B e s v n xs) (hb : Below w.heap.size w w') : w'.ownsRow B e s v n xs := by
  refine ⟨h.1, ?_⟩
  rcases h.2 with hn | ⟨g, cap, cur, rfl, hg, hgg, rest⟩
  · exact .inl hn
  · refine .inr ⟨g, cap, cur, rfl, hg, ?_, rest⟩
    rw [hb.block g (h.lt g rfl).2]; exact hgg
theorem base0 {w : World} {B e s : Nat} {v : Value} {n : Nat} {xs : List Value} (h : w.ownsRow B e s v n xs) : w.ownsRow 0 e s v n xs := by
  refine ⟨h.1, ?_⟩
  rcases h.2 with hn | ⟨g, cap, cur, rfl, hg, rest⟩
  · exact .inl hn
  · exact .inr ⟨g, cap, cur, rfl, Nat.zero_le _, rest⟩
theorem own_sl {w : World} {B e s : Nat} {v : Value} {n : Nat} {xs : List Value} (h : w.ownsRow B e s v n xs) : ∃ ao ca, v = .slice ao n ca := by
  rcases h.2 with ⟨rfl, h0⟩ | ⟨g, cap, cur, rfl, _⟩
  · exact ⟨none, 0, by rw [h0]⟩
  · exact ⟨_, _, rfl⟩
theorem own_max {w : World} {B e s : Nat} {v : Value} {n : Nat} {xs : List Value} (h : w.ownsRow B e s v n xs) : n ≤ maxLen := by
  rcases h.2 with ⟨rfl, h0⟩ | ⟨g, cap, cur, rfl, _, _, h1, h2, _⟩
  · rw [h0]; exact Nat.zero_le _
  · exact Nat.le_trans h1 h2
theorem add0 (g i : Nat) : (⟨g, 0, none⟩ : Addr).add i = ⟨g, i, none⟩ := by unfold Addr.add; split <;> simp_all
theorem It.at {w : World} {g c k : Nat} {n : Nat} {l : List ByteArray} {x : ByteArray} (h : It w (.slice (some ⟨g, 0, none⟩) n c) l) (hx : l[k]? = some x) : w.cell? ⟨g, k, none⟩ = some (.string x) := by
  have := h.cells (g := g) rfl k (.string x) (by simp [hx])
  rwa [add0] at this
theorem fm2 {α : Type} {f : α → List Value} (hf : ∀ a, (f a).length = 2) : ∀ {l : List α} {k : Nat} {x : α}, l[k]? = some x → (l.flatMap f)[k * 2]? = (f x)[0]? ∧ (l.flatMap f)[k * 2 + 1]? = (f x)[1]? := by
  intro l
  induction l with
  | nil => intro k x h; simp at h
  | cons a l ih =>
    intro k x h
    rw [List.flatMap_cons]
    cases k with
    | zero =>
      simp at h; subst h
      have := hf a
      exact ⟨by rw [List.getElem?_append_left (by omega)], by rw [List.getElem?_append_left (by omega)]⟩
    | succ k =>
      have := ih (by simpa using h)
      have hfa := hf a
      refine ⟨?_, ?_⟩
      · rw [List.getElem?_append_right (by omega), show (k + 1) * 2 - (f a).length = k * 2 by omega]; exact this.1
      · rw [List.getElem?_append_right (by omega), show (k + 1) * 2 + 1 - (f a).length = k * 2 + 1 by omega]; exact this.2
theorem Pr.at {w : World} {g c k : Nat} {n : Nat} {l : List (ByteArray × ByteArray)} {x : ByteArray × ByteArray} (h : Pr w (.slice (some ⟨g, 0, none⟩) n c) l) (hx : l[k]? = some x) :
    w.cell? ⟨g, k * 2, none⟩ = some (.string x.1) ∧ w.cell? ⟨g, k * 2 + 1, none⟩ = some (.string x.2) := by
  have q := fm2 (f := fun e : ByteArray × ByteArray => [Value.string e.1, .string e.2]) (fun _ => rfl) hx
  have h1 := h.cells (g := g) rfl _ _ q.1
  have h2 := h.cells (g := g) rfl _ _ q.2
  rw [add0] at h1 h2
  exact ⟨h1, h2⟩
theorem Ra.at {w : World} {g c k : Nat} {n : Nat} {l : List (ByteArray × Nat)} {x : ByteArray × Nat} (h : Ra w (.slice (some ⟨g, 0, none⟩) n c) l) (hx : l[k]? = some x) :
    w.cell? ⟨g, k * 2, none⟩ = some (.string x.1) ∧ w.cell? ⟨g, k * 2 + 1, none⟩ = some (.float .f64 x.2) := by
  have q := fm2 (f := fun e : ByteArray × Nat => [Value.string e.1, .float .f64 e.2]) (fun _ => rfl) hx
  have h1 := h.cells (g := g) rfl _ _ q.1
  have h2 := h.cells (g := g) rfl _ _ q.2
  rw [add0] at h1 h2
  exact ⟨h1, h2⟩
theorem own_some {w : World} {B e s n : Nat} {ao : Option Addr} {ca : Nat} {xs : List Value} (h : w.ownsRow B e s (.slice ao n ca) n xs) (hn : 0 < n) : ∃ g, ao = some ⟨g, 0, none⟩ ∧ g < w.heap.size := by
  obtain ⟨g, cap, e1, _, hg⟩ := h.form hn
  cases e1
  exact ⟨g, rfl, hg⟩
end Vl
end Go.Proofs.YthmmblohfjmbcaaGreat

/-
  Contracts over this program: two plain data that are the same.
-/
namespace Go.Proofs.YthmmblohfjmbcaaGreat
open Go.RowKit Go.Shelf
set_option linter.unusedVariables false
set_option linter.unusedSimpArgs false
namespace Vl
def plV (d : Dt) (iv pv rv : Value) : Value := .agg #[.int .i64 d.kind, .string d.text, iv, pv, rv]
/-- plain data in memory of its own -/
def Pln (w : World) (V : Value) (d : Dt) : Prop := ∃ iv pv rv, V = plV d iv pv rv ∧ It w iv d.items ∧ Pr w pv d.pairs ∧ Ra w rv d.ranks
theorem Pln.bel {w w' : World} {V : Value} {d : Dt} (h : Pln w V d) (hb : Below w.heap.size w w') : Pln w' V d := by
  obtain ⟨iv, pv, rv, e, h1, h2, h3⟩ := h
  exact ⟨iv, pv, rv, e, kept h1 hb, kept h2 hb, kept h3 hb⟩
end Vl
end Go.Proofs.YthmmblohfjmbcaaGreat

namespace Go.Proofs.YthmmblohfjmbcaaGreat
open Go.RowKit Go.Shelf
set_option linter.unusedVariables false
set_option linter.unusedSimpArgs false
set_option maxRecDepth 100000
namespace Vl
open Go.Maps
def kyb (x : ByteArray) : List UInt8 := x.data.toList
theorem kyb_inj {a b : ByteArray} (h : kyb a = kyb b) : a = b := by
  cases a; cases b; unfold kyb at h; congr 1; exact Array.ext' h
theorem keyb_of (k : ByteArray) (hk : k.size ≤ maxLen) : keyOf Tryz.prog 9 (.string k) = some (.string (kyb k)) := by
  simp [keyOf, Tryz.underlying9, mapKey, hk, kyb]
/-- the map in block b holds just these names, all unlike -/
def Seen (w : World) (b n : Nat) (N : List ByteArray) : Prop :=
  ∃ D : DataW Unit, w.ownsMap Tryz.prog 9 unitElem b n D ∧ size D = N.length ∧ ∀ k, has D (.string (kyb k)) = true ↔ k ∈ N
theorem Seen.made (w : World) : Seen (w.alloc (.map #[] 0)) w.heap.size 0 [] := ⟨.map [], World.ownsMap_made w _ _ _, rfl, fun k => by simp [has_eq]⟩
theorem Seen.bel {w w' : World} {b n : Nat} {N : List ByteArray} (h : Seen w b n N) (hb : Below w.heap.size w w') : Seen w' b n N := by
  obtain ⟨D, h1, h2⟩ := h
  have hl := h1.lt
  obtain ⟨es, clock, hh, F, hs, hD⟩ := h1
  exact ⟨D, ⟨es, clock, (hb.block b hl).trans hh, F, hs, hD⟩, h2⟩
theorem Seen.put {w : World} {b n : Nat} {N : List ByteArray} (h : Seen w b n N) (k : ByteArray) (hk : k.size ≤ maxLen) (hn : n < maxLen) :
    ∃ w', (Instr.mapUpdate 44 (.map (some b)) (.string k) (.agg #[])).run Tryz.prog w = .ok () w' ∧ w.grownBy w' (some b) ∧
      ((k ∈ N ∧ ∀ ty, (Builtin.len_ #[44] ty #[.map (some b)]).run Tryz.prog w' = .ok (.int .i64 (N.length : Int)) w') ∨
       (k ∉ N ∧ (∀ ty, (Builtin.len_ #[44] ty #[.map (some b)]).run Tryz.prog w' = .ok (.int .i64 ((N.length + 1 : Nat) : Int)) w') ∧ Seen w' b (n + 1) (N ++ [k]))) := by
  obtain ⟨D, h1, h2, h3⟩ := h
  have K := string_keyed (P := Tryz.prog) Tryz.underlying9
  have hT := h1.tidy K
  obtain ⟨w', r1, r2, r3⟩ := h1.store K Tryz.underlying44 hn (keyb_of k hk) (unitElem_mk (H := Unit))
  have hsz := size_put (k := .string (kyb k)) hT (.agg [] : DataW Unit)
  have hlen := fun ty => r2.len Tryz.underlying44 ty
  refine ⟨w', r1, r3.grown, ?_⟩
  by_cases hm : k ∈ N
  · refine .inl ⟨hm, fun ty => ?_⟩
    rw [hlen ty, hsz, if_pos ((h3 k).2 hm), h2]
  · have hm' : has D (.string (kyb k)) = false := by
      cases e : has D (.string (kyb k))
      · rfl
      · exact absurd ((h3 k).1 e) hm
    refine .inr ⟨hm, fun ty => ?_, _, r2, ?_, fun x => ?_⟩
    · rw [hlen ty, hsz, if_neg (by rw [hm']; simp), h2]
    · rw [hsz, if_neg (by rw [hm']; simp), h2]; simp
    · by_cases e : x = k
      · subst e
        rw [has_put_same hT.isMap (by trivial)]; simp
      · rw [has_put_other (fun e' => e (kyb_inj (by injection e'))), h3 x]; simp [e]
/-- q: two are one -/
def Twn (N : List ByteArray) (r : Ending) : Prop := ∃ q : Bool, r = .returned (.bool q) ∧ (q = true ↔ ¬ N.Nodup)
theorem nodup_snoc {N : List ByteArray} {k : ByteArray} (h : N.Nodup) (hk : k ∉ N) : (N ++ [k]).Nodup := by
  rw [List.nodup_append]
  refine ⟨h, by simp, fun a ha b hb => ?_⟩
  simp at hb
  subst hb
  exact fun e => hk (e ▸ ha)
theorem take_snoc {α β : Type} {f : α → β} {l : List α} {k : Nat} {x : α} (h : l[k]? = some x) : (l.map f).take (k + 1) = (l.map f).take k ++ [f x] := by
  have hx : (l.map f)[k]? = some (f x) := by rw [List.getElem?_map, h]; rfl
  rw [List.take_add_one, hx]; rfl
theorem twin_of {α β : Type} {f : α → β} {l : List α} {k : Nat} {x : α} (h : l[k]? = some x) (hm : f x ∈ (l.map f).take k) : ¬ (l.map f).Nodup := by
  intro hn
  have e := take_snoc (f := f) h
  have h2 : ((l.map f).take (k + 1)).Nodup := hn.sublist (List.take_sublist _ _)
  rw [e, List.nodup_append] at h2
  exact h2.2.2 _ hm _ (by simp) rfl
end Vl
end Go.Proofs.YthmmblohfjmbcaaGreat
