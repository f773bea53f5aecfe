/-
  Contracts over this program: rows of texts, of pairs and of members with scores, in memory of their own; plain data that is the same.
-/
import Derived.Test.YtmgeaanbgjbkcaaGreatDraws
import Derived.Test.YtmgeaanbgjbkcaaGreatVlMath
import Derived.Test.YtmgeaanbgjbkcaaGreatRkFloat
import Derived.Below
import Derived.OwnWalk
import Derived.Deep.AppendLies
import Derived.Deep.RegionHeld3
import Derived.Shelf.RegionOpen
import Derived.Deep.QuietTactic
import Derived.BigQuiet
namespace Go.Proofs.YtmgeaanbgjbkcaaGreat
open Go.RowKit Go.Shelf
set_option linter.unusedVariables false
set_option linter.unusedSimpArgs false
namespace Vl
def enP (l : List (ByteArray × ByteArray)) : List Value := l.flatMap fun e => [.string e.1, .string e.2]
def enM (l : List (ByteArray × Nat)) : List Value := l.flatMap fun e => [.string e.1, .float .f64 e.2]
/-- rows of texts, of pairs, of members -/
def It (w : World) (v : Value) (l : List ByteArray) : Prop := w.ownsRow 0 9 1 v l.length (l.map Value.string)
def Pr (w : World) (v : Value) (l : List (ByteArray × ByteArray)) : Prop := w.ownsRow 0 70 2 v l.length (enP l)
def Ra (w : World) (v : Value) (l : List (ByteArray × Nat)) : Prop := w.ownsRow 0 73 2 v l.length (enM l)
theorem kept {w w' : World} {B e s : Nat} {v : Value} {n : Nat} {xs : List Value} (h : w.ownsRow B e s v n xs) (hb : Below w.heap.size w w') : w'.ownsRow B e s v n xs := by
  refine ⟨h.1, ?_⟩
  rcases h.2 with hn | ⟨g, cap, cur, rfl, hg, hgg, rest⟩
  · exact .inl hn
  · refine .inr ⟨g, cap, cur, rfl, hg, ?_, rest⟩
    rw [hb.block g (h.lt g rfl).2]; exact hgg
theorem base0 {w : World} {B e s : Nat} {v : Value} {n : Nat} {xs : List Value} (h : w.ownsRow B e s v n xs) : w.ownsRow 0 e s v n xs := by
  refine ⟨h.1, ?_⟩
  rcases h.2 with hn | ⟨g, cap, cur, rfl, hg, rest⟩
  · exact .inl hn
  · exact .inr ⟨g, cap, cur, rfl, Nat.zero_le _, rest⟩
theorem own_sl {w : World} {B e s : Nat} {v : Value} {n : Nat} {xs : List Value} (h : w.ownsRow B e s v n xs) : ∃ ao ca, v = .slice ao n ca := by
  rcases h.2 with ⟨rfl, h0⟩ | ⟨g, cap, cur, rfl, _⟩
  · exact ⟨none, 0, by rw [h0]⟩
  · exact ⟨_, _, rfl⟩
theorem own_max {w : World} {B e s : Nat} {v : Value} {n : Nat} {xs : List Value} (h : w.ownsRow B e s v n xs) : n ≤ maxLen := by
  rcases h.2 with ⟨rfl, h0⟩ | ⟨g, cap, cur, rfl, _, _, h1, h2, _⟩
  · rw [h0]; exact Nat.zero_le _
  · exact Nat.le_trans h1 h2
theorem add0 (g i : Nat) : (⟨g, 0, none⟩ : Addr).add i = ⟨g, i, none⟩ := by unfold Addr.add; split <;> simp_all
theorem It.at {w : World} {g c k : Nat} {n : Nat} {l : List ByteArray} {x : ByteArray} (h : It w (.slice (some ⟨g, 0, none⟩) n c) l) (hx : l[k]? = some x) : w.cell? ⟨g, k, none⟩ = some (.string x) := by
  have := h.cells (g := g) rfl k (.string x) (by simp [hx])
  rwa [add0] at this
theorem fm2 {α : Type} {f : α → List Value} (hf : ∀ a, (f a).length = 2) : ∀ {l : List α} {k : Nat} {x : α}, l[k]? = some x → (l.flatMap f)[k * 2]? = (f x)[0]? ∧ (l.flatMap f)[k * 2 + 1]? = (f x)[1]? := by
  intro l
  induction l with
  | nil => intro k x h; simp at h
  | cons a l ih =>
    intro k x h
    rw [List.flatMap_cons]
    cases k with
    | zero =>
      simp at h; subst h
      have := hf a
      exact ⟨by rw [List.getElem?_append_left (by omega)], by rw [List.getElem?_append_left (by omega)]⟩
    | succ k =>
      have := ih (by simpa using h)
      have hfa := hf a
      refine ⟨?_, ?_⟩
      · rw [List.getElem?_append_right (by omega), show (k + 1) * 2 - (f a).length = k * 2 by omega]; exact this.1
      · rw [List.getElem?_append_right (by omega), show (k + 1) * 2 + 1 - (f a).length = k * 2 + 1 by omega]; exact this.2
theorem Pr.at {w : World} {g c k : Nat} {n : Nat} {l : List (ByteArray × ByteArray)} {x : ByteArray × ByteArray} (h : Pr w (.slice (some ⟨g, 0, none⟩) n c) l) (hx : l[k]? = some x) :
    w.cell? ⟨g, k * 2, none⟩ = some (.string x.1) ∧ w.cell? ⟨g, k * 2 + 1, none⟩ = some (.string x.2) := by
  have q := fm2 (f := fun e : ByteArray × ByteArray => [Value.string e.1, .string e.2]) (fun _ => rfl) hx
  have h1 := h.cells (g := g) rfl _ _ q.1
  have h2 := h.cells (g := g) rfl _ _ q.2
  rw [add0] at h1 h2
  exact ⟨h1, h2⟩
theorem Ra.at {w : World} {g c k : Nat} {n : Nat} {l : List (ByteArray × Nat)} {x : ByteArray × Nat} (h : Ra w (.slice (some ⟨g, 0, none⟩) n c) l) (hx : l[k]? = some x) :
    w.cell? ⟨g, k * 2, none⟩ = some (.string x.1) ∧ w.cell? ⟨g, k * 2 + 1, none⟩ = some (.float .f64 x.2) := by
  have q := fm2 (f := fun e : ByteArray × Nat => [Value.string e.1, .float .f64 e.2]) (fun _ => rfl) hx
  have h1 := h.cells (g := g) rfl _ _ q.1
  have h2 := h.cells (g := g) rfl _ _ q.2
  rw [add0] at h1 h2
  exact ⟨h1, h2⟩
theorem own_some {w : World} {B e s n : Nat} {ao : Option Addr} {ca : Nat} {xs : List Value} (h : w.ownsRow B e s (.slice ao n ca) n xs) (hn : 0 < n) : ∃ g, ao = some ⟨g, 0, none⟩ ∧ g < w.heap.size := by
  obtain ⟨g, cap, e1, _, hg⟩ := h.form hn
  cases e1
  exact ⟨g, rfl, hg⟩
set_option maxRecDepth 100000 in
set_option maxHeartbeats 1000000 in
theorem texts_any (w : World) (va vb : Value) (xs : List ByteArray) (ha : It w va xs) (hb : It w vb xs) :
    Calls Tryz.prog 39 #[va, vb] w fun e w' => e = .returned (.bool true) ∧ Below w.heap.size w w' := by
  have hmx := own_max ha
  unfold maxLen at hmx
  obtain ⟨ao, ca, rfl⟩ := own_sl ha
  obtain ⟨bo, cb, rfl⟩ := own_sl hb
  obtain ⟨L, hL⟩ : ∃ L, xs.length = L := ⟨_, rfl⟩
  have HA := keep ha
  have HB := keep hb
  have HL := keep hL
  rw [hL] at hmx ⊢
  clear ha hb hL
  go_enter Tryz.func39, Tryz.ntmps39
  go_wp2
  go_loopw [5] (fun i wr => ∃ k : Nat, k ≤ L ∧ i = .int .i64 k ∧ Kept (Below w.heap.size w wr)) (fun i _ => L - (intOf i).toNat)
  case atStart => exact ⟨0, Nat.zero_le _, rfl, Below.refl _ _⟩
  case round =>
    obtain ⟨k, hk, rfl, KB⟩ := hrel
    by_cases hlt : k < L
    · have hz : (k : Int) < (L : Int) := by omega
      have hz0 : (0 : Int) ≤ (k : Int) := by omega
      obtain ⟨x, hx⟩ : ∃ x, xs[k]? = some x := ⟨_, List.getElem?_eq_getElem (by rw [HL.out]; exact hlt)⟩
      have h1 := HA.out
      have h2 := HB.out
      rw [HL.out] at h1 h2
      obtain ⟨g1, rfl, hg1⟩ := own_some (n := L) (by rw [← HL.out]; rw [← HL.out] at h1; exact h1) (by omega)
      obtain ⟨g2, rfl, hg2⟩ := own_some (n := L) (by rw [← HL.out]; rw [← HL.out] at h2; exact h2) (by omega)
      have c1 : wr.cell? ⟨g1, k, none⟩ = some (.string x) := (KB.out.cell (p := ⟨g1, k, none⟩) hg1).trans (It.at h1 hx)
      have c2 : wr.cell? ⟨g2, k, none⟩ = some (.string x) := (KB.out.cell (p := ⟨g2, k, none⟩) hg2).trans (It.at h2 hx)
      clear hx h1 h2
      go_wp2_with fail
      go_region
      go_wp2
      go_roundw
      case measure => simp [intOf]; omega
      case rel => exact ⟨k + 1, by omega, by go_num, KB.out.drew⟩
    · have hz : ¬ (k : Int) < (L : Int) := by omega
      go_wp2
      go_ret
      exact ⟨rfl, KB.out⟩
theorem float_same (a : Nat) (w : World) :
    Calls Tryz.prog 57 #[.float .f64 a, .float .f64 a] w fun e w' => e = .returned (.bool true) ∧ w' = w := by
  have fa := run_bits a
  cases ha : isNan a
  · have oa : FloatKind.f64.format.order a a = some .eq := order_self ha
    go_enter Tryz.func57, Tryz.ntmps57
    go_wp2
    go_ret
    exact ⟨by simp, rfl⟩
  · have oa : FloatKind.f64.format.order a a = none := order_of_nan (Or.inl ha)
    go_enter Tryz.func57, Tryz.ntmps57
    go_wp2
    go_ret
    exact ⟨rfl, rfl⟩
end Vl
end Go.Proofs.YtmgeaanbgjbkcaaGreat
