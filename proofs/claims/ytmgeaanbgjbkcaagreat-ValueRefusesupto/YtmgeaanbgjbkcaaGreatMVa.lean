/-
  Contracts over this program, put together.
-/
import Derived.Test.YtmgeaanbgjbkcaaGreatMA
import Derived.Below
import Derived.OwnWalk
import Derived.Stop.Asserts
import Derived.Deep.AppendLies
import Derived.Deep.RegionHeld3
import Derived.Shelf.RegionOpen
import Derived.Deep.QuietTactic
import Derived.BigQuiet
import Derived.Laws.StructEq
set_option maxHeartbeats 8000000
namespace Go.Proofs.YtmgeaanbgjbkcaaGreat
open Go.RowKit
def cNo : Value := .iface 172 (.agg #[])
set_option maxRecDepth 100000
theorem content_none (w : World) : Calls Tryz.prog 59 #[.pointer none] w fun e w' => e = .returned cNo ∧ w' = w := by
  go_enter Tryz.func59, Tryz.ntmps59
  go_wp2
  go_ret
  exact ⟨rfl, rfl⟩
theorem cost_none (w : World) : Calls Tryz.prog 16 #[.pointer none] w fun e w' => e = .returned (.int .i64 0) ∧ Below w.heap.size w w' := by
  have mC := content_none w
  have hm : ∀ w : World, (method 516 172 (.agg #[]) "Cost").run Tryz.prog w = .ok (382, .agg #[]) w := fun _ => by kernel_rfl
  go_enter Tryz.func16, Tryz.ntmps16
  go_wp2_with fail
  refine mC.mono ?_
  rintro _ w1 ⟨rfl, rfl⟩
  unfold cNo
  go_wp2
  go_ret
  exact ⟨rfl, (Below.refl _ _).alloc (Nat.le_refl _) _⟩
end Go.Proofs.YtmgeaanbgjbkcaaGreat

namespace Go.Proofs.YtmgeaanbgjbkcaaGreat
open Go.RowKit Go.Shelf
set_option linter.unusedVariables false
set_option linter.unusedSimpArgs false
namespace Vl
def enP (l : List (ByteArray × ByteArray)) : List Value := l.flatMap fun e => [.string e.1, .string e.2]
def enM (l : List (ByteArray × Nat)) : List Value := l.flatMap fun e => [.string e.1, .float .f64 e.2]
def It (w : World) (v : Value) (l : List ByteArray) : Prop := w.ownsRow 0 9 1 v l.length (l.map Value.string)
def Pr (w : World) (v : Value) (l : List (ByteArray × ByteArray)) : Prop := w.ownsRow 0 70 2 v l.length (enP l)
def Ra (w : World) (v : Value) (l : List (ByteArray × Nat)) : Prop := w.ownsRow 0 73 2 v l.length (enM l)
theorem kept {w w' : World} {B e s : Nat} {v : Value} {n : Nat} {xs : List Value} (h : w.ownsRow B e s v n xs) (hb : Below w.heap.size w w') : w'.ownsRow B e s v n xs := by
  refine ⟨h.1, ?_⟩
  rcases h.2 with hn | ⟨g, cap, cur, rfl, hg, hgg, rest⟩
  · exact .inl hn
  · refine .inr ⟨g, cap, cur, rfl, hg, ?_, rest⟩
    rw [hb.block g (h.lt g rfl).2]; exact hgg
theorem base0 {w : World} {B e s : Nat} {v : Value} {n : Nat} {xs : List Value} (h : w.ownsRow B e s v n xs) : w.ownsRow 0 e s v n xs := by
  refine ⟨h.1, ?_⟩
  rcases h.2 with hn | ⟨g, cap, cur, rfl, hg, rest⟩
  · exact .inl hn
  · exact .inr ⟨g, cap, cur, rfl, Nat.zero_le _, rest⟩
theorem own_sl {w : World} {B e s : Nat} {v : Value} {n : Nat} {xs : List Value} (h : w.ownsRow B e s v n xs) : ∃ ao ca, v = .slice ao n ca := by
  rcases h.2 with ⟨rfl, h0⟩ | ⟨g, cap, cur, rfl, _⟩
  · exact ⟨none, 0, by rw [h0]⟩
  · exact ⟨_, _, rfl⟩
theorem own_max {w : World} {B e s : Nat} {v : Value} {n : Nat} {xs : List Value} (h : w.ownsRow B e s v n xs) : n ≤ maxLen := by
  rcases h.2 with ⟨rfl, h0⟩ | ⟨g, cap, cur, rfl, _, _, h1, h2, _⟩
  · rw [h0]; exact Nat.zero_le _
  · exact Nat.le_trans h1 h2
theorem add0 (g i : Nat) : (⟨g, 0, none⟩ : Addr).add i = ⟨g, i, none⟩ := by unfold Addr.add; split <;> simp_all
theorem It.at {w : World} {g c k : Nat} {n : Nat} {l : List ByteArray} {x : ByteArray} (h : It w (.slice (some ⟨g, 0, none⟩) n c) l) (hx : l[k]? = some x) : w.cell? ⟨g, k, none⟩ = some (.string x) := by
  have := h.cells (g := g) rfl k (.string x) (by simp [hx])
  rwa [add0] at this
theorem fm2 {α : Type} {f : α → List Value} (hf : ∀ a, (f a).length = 2) : ∀ {l : List α} {k : Nat} {x : α}, l[k]? = some x → (l.flatMap f)[k * 2]? = (f x)[0]? ∧ (l.flatMap f)[k * 2 + 1]? = (f x)[1]? := by
  intro l
  induction l with
  | nil => intro k x h; simp at h
  | cons a l ih =>
    intro k x h
    rw [List.flatMap_cons]
    cases k with
    | zero =>
      simp at h; subst h
      have := hf a
      exact ⟨by rw [List.getElem?_append_left (by omega)], by rw [List.getElem?_append_left (by omega)]⟩
    | succ k =>
      have := ih (by simpa using h)
      have hfa := hf a
      refine ⟨?_, ?_⟩
      · rw [List.getElem?_append_right (by omega), show (k + 1) * 2 - (f a).length = k * 2 by omega]; exact this.1
      · rw [List.getElem?_append_right (by omega), show (k + 1) * 2 + 1 - (f a).length = k * 2 + 1 by omega]; exact this.2
theorem Pr.at {w : World} {g c k : Nat} {n : Nat} {l : List (ByteArray × ByteArray)} {x : ByteArray × ByteArray} (h : Pr w (.slice (some ⟨g, 0, none⟩) n c) l) (hx : l[k]? = some x) :
    w.cell? ⟨g, k * 2, none⟩ = some (.string x.1) ∧ w.cell? ⟨g, k * 2 + 1, none⟩ = some (.string x.2) := by
  have q := fm2 (f := fun e : ByteArray × ByteArray => [Value.string e.1, .string e.2]) (fun _ => rfl) hx
  have h1 := h.cells (g := g) rfl _ _ q.1
  have h2 := h.cells (g := g) rfl _ _ q.2
  rw [add0] at h1 h2
  exact ⟨h1, h2⟩
theorem Ra.at {w : World} {g c k : Nat} {n : Nat} {l : List (ByteArray × Nat)} {x : ByteArray × Nat} (h : Ra w (.slice (some ⟨g, 0, none⟩) n c) l) (hx : l[k]? = some x) :
    w.cell? ⟨g, k * 2, none⟩ = some (.string x.1) ∧ w.cell? ⟨g, k * 2 + 1, none⟩ = some (.float .f64 x.2) := by
  have q := fm2 (f := fun e : ByteArray × Nat => [Value.string e.1, .float .f64 e.2]) (fun _ => rfl) hx
  have h1 := h.cells (g := g) rfl _ _ q.1
  have h2 := h.cells (g := g) rfl _ _ q.2
  rw [add0] at h1 h2
  exact ⟨h1, h2⟩
theorem own_some {w : World} {B e s n : Nat} {ao : Option Addr} {ca : Nat} {xs : List Value} (h : w.ownsRow B e s (.slice ao n ca) n xs) (hn : 0 < n) : ∃ g, ao = some ⟨g, 0, none⟩ ∧ g < w.heap.size := by
  obtain ⟨g, cap, e1, _, hg⟩ := h.form hn
  cases e1
  exact ⟨g, rfl, hg⟩
set_option maxRecDepth 100000 in
theorem texts_any (w : World) (va vb : Value) (xs : List ByteArray) (ha : It w va xs) (hb : It w vb xs) :
    Calls Tryz.prog 39 #[va, vb] w fun e w' => e = .returned (.bool true) ∧ Below w.heap.size w w' := by
  have hmx := own_max ha
  unfold maxLen at hmx
  obtain ⟨ao, ca, rfl⟩ := own_sl ha
  obtain ⟨bo, cb, rfl⟩ := own_sl hb
  obtain ⟨L, hL⟩ : ∃ L, xs.length = L := ⟨_, rfl⟩
  have HA := keep ha
  have HB := keep hb
  have HL := keep hL
  rw [hL] at hmx ⊢
  clear ha hb hL
  go_enter Tryz.func39, Tryz.ntmps39
  go_wp2
  go_loopw [5] (fun i wr => ∃ k : Nat, k ≤ L ∧ i = .int .i64 k ∧ Kept (Below w.heap.size w wr)) (fun i _ => L - (intOf i).toNat)
  case atStart => exact ⟨0, Nat.zero_le _, rfl, Below.refl _ _⟩
  case round =>
    obtain ⟨k, hk, rfl, KB⟩ := hrel
    by_cases hlt : k < L
    · have hz : (k : Int) < (L : Int) := by omega
      have hz0 : (0 : Int) ≤ (k : Int) := by omega
      obtain ⟨x, hx⟩ : ∃ x, xs[k]? = some x := ⟨_, List.getElem?_eq_getElem (by rw [HL.out]; exact hlt)⟩
      have h1 := HA.out
      have h2 := HB.out
      rw [HL.out] at h1 h2
      obtain ⟨g1, rfl, hg1⟩ := own_some (n := L) (by rw [← HL.out]; rw [← HL.out] at h1; exact h1) (by omega)
      obtain ⟨g2, rfl, hg2⟩ := own_some (n := L) (by rw [← HL.out]; rw [← HL.out] at h2; exact h2) (by omega)
      have c1 : wr.cell? ⟨g1, k, none⟩ = some (.string x) := (KB.out.cell (p := ⟨g1, k, none⟩) hg1).trans (It.at h1 hx)
      have c2 : wr.cell? ⟨g2, k, none⟩ = some (.string x) := (KB.out.cell (p := ⟨g2, k, none⟩) hg2).trans (It.at h2 hx)
      clear hx h1 h2
      go_wp2_with fail
      go_region
      go_wp2
      go_roundw
      case measure => simp [intOf]; omega
      case rel => exact ⟨k + 1, by omega, by go_num, KB.out.drew⟩
    · have hz : ¬ (k : Int) < (L : Int) := by omega
      go_wp2
      go_ret
      exact ⟨rfl, KB.out⟩
theorem float_same (a : Nat) (w : World) :
    Calls Tryz.prog 57 #[.float .f64 a, .float .f64 a] w fun e w' => e = .returned (.bool true) ∧ w' = w := by
  have fa := run_bits a
  cases ha : isNan a
  · have oa : FloatKind.f64.format.order a a = some .eq := order_self ha
    go_enter Tryz.func57, Tryz.ntmps57
    go_wp2
    go_ret
    exact ⟨by simp, rfl⟩
  · have oa : FloatKind.f64.format.order a a = none := order_of_nan (Or.inl ha)
    go_enter Tryz.func57, Tryz.ntmps57
    go_wp2
    go_ret
    exact ⟨rfl, rfl⟩
end Vl
end Go.Proofs.YtmgeaanbgjbkcaaGreat

namespace Go.Proofs.YtmgeaanbgjbkcaaGreat
open Go.RowKit Go.Shelf
set_option linter.unusedVariables false
set_option linter.unusedSimpArgs false
namespace Vl
def plV (d : Dt) (iv pv rv : Value) : Value := .agg #[.int .i64 d.kind, .string d.text, iv, pv, rv]
def Pln (w : World) (V : Value) (d : Dt) : Prop := ∃ iv pv rv, V = plV d iv pv rv ∧ It w iv d.items ∧ Pr w pv d.pairs ∧ Ra w rv d.ranks
theorem Pln.bel {w w' : World} {V : Value} {d : Dt} (h : Pln w V d) (hb : Below w.heap.size w w') : Pln w' V d := by
  obtain ⟨iv, pv, rv, e, h1, h2, h3⟩ := h
  exact ⟨iv, pv, rv, e, kept h1 hb, kept h2 hb, kept h3 hb⟩
set_option maxRecDepth 100000 in
theorem plain_same (w : World) (V V' : Value) (d : Dt) (h : Pln w V d) (h' : Pln w V' d) :
    Calls Tryz.prog 12 #[V, V'] w fun e w' => e = .returned (.bool true) ∧ Below w.heap.size w w' := by
  obtain ⟨iv, pv, rv, rfl, a1, a2, a3⟩ := h
  obtain ⟨iv', pv', rv', rfl, b1, b2, b3⟩ := h'
  obtain ⟨kd, tx, is, ps, rs⟩ := d
  dsimp only at a1 a2 a3 b1 b2 b3
  obtain ⟨W1, hW1⟩ : ∃ W1, (w.alloc (.cells #[.int .i64 kd, .string tx, iv, pv, rv] 30)).alloc (.cells #[.int .i64 kd, .string tx, iv', pv', rv'] 30) = W1 := ⟨_, rfl⟩
  have hb1 : Below w.heap.size w W1 := by rw [← hW1]; exact ((Below.refl _ w).alloc (Nat.le_refl _) _).alloc (by simp) _
  have hz1 : W1.heap.size = w.heap.size + 2 := by rw [← hW1]; simp
  have g0 : W1.heap[w.heap.size]? = some (.cells #[.int .i64 kd, .string tx, iv, pv, rv] 30 (0, 0)) := by
    rw [← hW1, Below.heap_alloc _ _ _ (by simp)]; exact heap_alloc_new _ _
  have g1 : W1.heap[w.heap.size + 1]? = some (.cells #[.int .i64 kd, .string tx, iv', pv', rv'] 30 (0, 0)) := by
    rw [← hW1]
    have := heap_alloc_new (w.alloc (.cells #[.int .i64 kd, .string tx, iv, pv, rv] 30)) (.cells #[.int .i64 kd, .string tx, iv', pv', rv'] 30)
    rwa [World.size_alloc] at this
  have mT := texts_any W1 iv iv' is (kept a1 hb1) (kept b1 hb1)
  have p1 := kept a2 hb1
  have p2 := kept b2 hb1
  have r1 := kept a3 hb1
  have r2 := kept b3 hb1
  have hmp := own_max p1
  have hmr := own_max r1
  unfold maxLen at hmp hmr
  unfold plV
  dsimp only
  obtain ⟨po, pc, rfl⟩ := own_sl p1
  obtain ⟨po', pc', rfl⟩ := own_sl p2
  obtain ⟨ro, rc, rfl⟩ := own_sl r1
  obtain ⟨ro', rc', rfl⟩ := own_sl r2
  obtain ⟨L, hL⟩ : ∃ L, ps.length = L := ⟨_, rfl⟩
  obtain ⟨M, hM⟩ : ∃ M, rs.length = M := ⟨_, rfl⟩
  rw [hL] at p1 p2 hmp g0 g1 hW1 ⊢
  rw [hM] at r1 r2 hmr g0 g1 hW1 ⊢
  have P1 := keep p1
  have P2 := keep p2
  have R1 := keep r1
  have R2 := keep r2
  have HL := keep hL
  have HM := keep hM
  have HB1 := keep hb1
  have c0 : ∀ i v, (#[Value.int .i64 kd, .string tx, iv, .slice po L pc, .slice ro M rc] : Array Value)[i]? = some v → W1.cell? ⟨w.heap.size, i, none⟩ = some v := fun i v e => by rw [cell_of_row _ _ _ _ _ _ g0]; exact e
  have c1 : ∀ i v, (#[Value.int .i64 kd, .string tx, iv', .slice po' L pc', .slice ro' M rc'] : Array Value)[i]? = some v → W1.cell? ⟨w.heap.size + 1, i, none⟩ = some v := fun i v e => by rw [cell_of_row _ _ _ _ _ _ g1]; exact e
  have d0 : W1.cell? ⟨w.heap.size, 0, none⟩ = some (.int .i64 kd) := c0 0 _ rfl
  have d1 : W1.cell? ⟨w.heap.size, 1, none⟩ = some (.string tx) := c0 1 _ rfl
  have d2 : W1.cell? ⟨w.heap.size, 2, none⟩ = some (iv) := c0 2 _ rfl
  have d3 : W1.cell? ⟨w.heap.size, 3, none⟩ = some (.slice po L pc) := c0 3 _ rfl
  have d4 : W1.cell? ⟨w.heap.size, 4, none⟩ = some (.slice ro M rc) := c0 4 _ rfl
  have e0 : W1.cell? ⟨w.heap.size + 1, 0, none⟩ = some (.int .i64 kd) := c1 0 _ rfl
  have e1 : W1.cell? ⟨w.heap.size + 1, 1, none⟩ = some (.string tx) := c1 1 _ rfl
  have e2 : W1.cell? ⟨w.heap.size + 1, 2, none⟩ = some (iv') := c1 2 _ rfl
  have e3 : W1.cell? ⟨w.heap.size + 1, 3, none⟩ = some (.slice po' L pc') := c1 3 _ rfl
  have e4 : W1.cell? ⟨w.heap.size + 1, 4, none⟩ = some (.slice ro' M rc') := c1 4 _ rfl
  have hqq : (tx.toList == tx.toList) = true := beq_self_eq_true _
  have D3 := keep d3
  have D4 := keep d4
  have E3 := keep e3
  have E4 := keep e4
  have HW1 := keep hW1
  have HZ1 := keep hz1
  clear a1 a2 a3 b1 b2 b3 p1 p2 r1 r2 hL hM c0 c1 g0 g1 hb1 hW1 hz1
  go_enter Tryz.func12, Tryz.ntmps12
  go_wp2_with fail
  rw [HW1.out]
  refine mT.mono ?_
  rintro _ W2 ⟨rfl, hb2⟩
  have HB2 := keep hb2
  have nu : ∀ {p : Addr} {v : Value}, W1.cell? p = some v → W2.cell? p = some v := fun {p v} h => (hb2.cell (p := p) (World.block_lt_of_cell? _ _ h)).trans h
  have d3 := nu D3.out
  have d4 := nu D4.out
  have e3 := nu E3.out
  have e4 := nu E4.out
  have P1 := keep (kept P1.out hb2)
  have P2 := keep (kept P2.out hb2)
  have R1 := keep (kept R1.out hb2)
  have R2 := keep (kept R2.out hb2)
  have HB := keep (HB1.out.trans (hb2.mono HB1.out.size))
  have HZ2 : Kept (w.heap.size + 2 ≤ W2.heap.size) := by have := hb2.size; have := HZ1.out; show _ ≤ _; omega
  have D3 := keep d3
  have D4 := keep d4
  have E3 := keep e3
  have E4 := keep e4
  clear mT nu hb2 HW1
  go_wp2_with fail
  clear d3 d4 e3 e4
  go_loopw [5] (fun i wr => ∃ k : Nat, k ≤ L ∧ i = .int .i64 k ∧ Kept (Below W2.heap.size W2 wr)) (fun i _ => L - (intOf i).toNat)
  case atStart => exact ⟨0, Nat.zero_le _, rfl, Below.refl _ _⟩
  case round =>
    obtain ⟨k, hk, rfl, KB⟩ := hrel
    have nu : ∀ {p : Addr} {v : Value}, W2.cell? p = some v → wr.cell? p = some v := fun {p v} h => (KB.out.cell (p := p) (World.block_lt_of_cell? _ _ h)).trans h
    have d3 := nu D3.out
    have e3 := nu E3.out
    by_cases hlt : k < L
    · have hz : (k : Int) < (L : Int) := by omega
      have hz0 : (0 : Int) ≤ (k : Int) := by omega
      obtain ⟨x, hx⟩ : ∃ x, ps[k]? = some x := ⟨_, List.getElem?_eq_getElem (by rw [HL.out]; exact hlt)⟩
      obtain ⟨g1, rfl, hg1⟩ := own_some P1.out (by omega)
      obtain ⟨g2, rfl, hg2⟩ := own_some P2.out (by omega)
      have q1 : Pr W2 (.slice (some ⟨g1, 0, none⟩) L pc) ps := by unfold Pr; rw [HL.out]; exact P1.out
      have q2 : Pr W2 (.slice (some ⟨g2, 0, none⟩) L pc') ps := by unfold Pr; rw [HL.out]; exact P2.out
      obtain ⟨a1, a2⟩ := q1.at hx
      obtain ⟨b1, b2⟩ := q2.at hx
      obtain ⟨x1, x2⟩ := x
      dsimp only at a1 a2 b1 b2
      have a1 := nu a1
      have a2 := nu a2
      have b1 := nu b1
      have b2 := nu b2
      obtain ⟨ok, hok⟩ : ∃ ok, k * 2 = ok := ⟨_, rfl⟩
      rw [hok] at a1 a2 b1 b2
      have t1 : (x1.toList == x1.toList) = true := beq_self_eq_true _
      have t2 : (x2.toList == x2.toList) = true := beq_self_eq_true _
      have KW : IntKind.i64.wrap ((k : Int) + 1) = ((k + 1 : Nat) : Int) := by rw [IntKind.wrap_i64]; omega
      clear hx q1 q2 nu
      have HS : Kept (wr.drew.cell? ⟨w.heap.size, 3, none⟩ = some (.slice (some ⟨g1, 0, none⟩) L pc) ∧ wr.drew.cell? ⟨w.heap.size + 1, 3, none⟩ = some (.slice (some ⟨g2, 0, none⟩) L pc') ∧ wr.drew.cell? ⟨g1, ok, none⟩ = some (.string x1) ∧ wr.drew.cell? ⟨g1, ok + 1, none⟩ = some (.string x2) ∧ wr.drew.cell? ⟨g2, ok, none⟩ = some (.string x1) ∧ wr.drew.cell? ⟨g2, ok + 1, none⟩ = some (.string x2)) := ⟨d3, e3, a1, a2, b1, b2⟩
      go_wp2_with fail
      refine wp_region_held_drew (S := fun W => W.cell? ⟨w.heap.size, 3, none⟩ = some (.slice (some ⟨g1, 0, none⟩) L pc) ∧ W.cell? ⟨w.heap.size + 1, 3, none⟩ = some (.slice (some ⟨g2, 0, none⟩) L pc') ∧ W.cell? ⟨g1, ok, none⟩ = some (.string x1) ∧ W.cell? ⟨g1, ok + 1, none⟩ = some (.string x2) ∧ W.cell? ⟨g2, ok, none⟩ = some (.string x1) ∧ W.cell? ⟨g2, ok + 1, none⟩ = some (.string x2)) (by kernel_rfl) HS.out (fun hHeld => ?_)
      refine wpAnyH_take (i := 0) (oi := ⟨some 52, _, _, _, _, _⟩) (v := (.pointer (some ⟨w.heap.size, 3, none⟩))) rfl (by kernel_rfl) (by kernel_rfl) (by kernel_rfl) (fun _ _ _ h => h) (Or.inl ⟨by rfl, ?hy1⟩) (by assumption) ?rest1
      case hy1 => (intro w hSw; obtain ⟨p0,p1,p2,p3,p4,p5⟩ := hSw; first | (go_simp; done) | (go_simp; simp [*]; done) | (simp [*]; go_simp; done))
      try simp only [Act.put, List.setIfInBounds_toArray, List.set_cons_zero, List.set_cons_succ]
      refine wpAnyH_take (i := 1) (oi := ⟨some 53, _, _, _, _, _⟩) (v := (.slice (some ⟨g1, 0, none⟩) L pc)) rfl (by kernel_rfl) (by kernel_rfl) (by kernel_rfl) (fun _ _ _ h => h) (Or.inl ⟨by rfl, ?hy2⟩) (by assumption) ?rest2
      case hy2 => (intro w hSw; obtain ⟨p0,p1,p2,p3,p4,p5⟩ := hSw; first | (go_simp; done) | (go_simp; simp [*]; done) | (simp [*]; go_simp; done))
      try simp only [Act.put, List.setIfInBounds_toArray, List.set_cons_zero, List.set_cons_succ]
      refine wpAnyH_take (i := 2) (oi := ⟨some 54, _, _, _, _, _⟩) (v := ?v3) rfl (by kernel_rfl) (by kernel_rfl) (by kernel_rfl) (fun _ _ _ h => h) (Or.inl ⟨by rfl, ?hy3⟩) (by assumption) ?rest3
      case hy3 => (intro w hSw; obtain ⟨p0,p1,p2,p3,p4,p5⟩ := hSw; go_simp; try with_reducible rfl)
      try simp only [Act.put, List.setIfInBounds_toArray, List.set_cons_zero, List.set_cons_succ]
      refine wpAnyH_take (i := 3) (oi := ⟨some 55, _, _, _, _, _⟩) (v := (.pointer (some ⟨g1, ok, none⟩))) rfl (by kernel_rfl) (by kernel_rfl) (by kernel_rfl) (fun _ _ _ h => h) (Or.inl ⟨by rfl, ?hy4⟩) (by assumption) ?rest4
      case hy4 => (intro w hSw; obtain ⟨p0,p1,p2,p3,p4,p5⟩ := hSw; first | (go_simp; done) | (go_simp; simp [*]; done) | (simp [*]; go_simp; done))
      try simp only [Act.put, List.setIfInBounds_toArray, List.set_cons_zero, List.set_cons_succ]
      refine wpAnyH_take (i := 4) (oi := ⟨some 56, _, _, _, _, _⟩) (v := (.agg #[.string x1, .string x2])) rfl (by kernel_rfl) (by kernel_rfl) (by kernel_rfl) (fun _ _ _ h => h) (Or.inl ⟨by rfl, ?hy5⟩) (by assumption) ?rest5
      case hy5 => (intro w hSw; obtain ⟨p0,p1,p2,p3,p4,p5⟩ := hSw; first | (go_simp; done) | (go_simp; simp [*]; done) | (simp [*]; go_simp; done))
      try simp only [Act.put, List.setIfInBounds_toArray, List.set_cons_zero, List.set_cons_succ]
      refine wpAnyH_take (i := 5) (oi := ⟨some 57, _, _, _, _, _⟩) (v := (.pointer (some ⟨w.heap.size + 1, 3, none⟩))) rfl (by kernel_rfl) (by kernel_rfl) (by kernel_rfl) (fun _ _ _ h => h) (Or.inl ⟨by rfl, ?hy6⟩) (by assumption) ?rest6
      case hy6 => (intro w hSw; obtain ⟨p0,p1,p2,p3,p4,p5⟩ := hSw; first | (go_simp; done) | (go_simp; simp [*]; done) | (simp [*]; go_simp; done))
      try simp only [Act.put, List.setIfInBounds_toArray, List.set_cons_zero, List.set_cons_succ]
      refine wpAnyH_take (i := 6) (oi := ⟨some 58, _, _, _, _, _⟩) (v := (.slice (some ⟨g2, 0, none⟩) L pc')) rfl (by kernel_rfl) (by kernel_rfl) (by kernel_rfl) (fun _ _ _ h => h) (Or.inl ⟨by rfl, ?hy7⟩) (by assumption) ?rest7
      case hy7 => (intro w hSw; obtain ⟨p0,p1,p2,p3,p4,p5⟩ := hSw; first | (go_simp; done) | (go_simp; simp [*]; done) | (simp [*]; go_simp; done))
      try simp only [Act.put, List.setIfInBounds_toArray, List.set_cons_zero, List.set_cons_succ]
      refine wpAnyH_take (i := 7) (oi := ⟨some 59, _, _, _, _, _⟩) (v := ?v8) rfl (by kernel_rfl) (by kernel_rfl) (by kernel_rfl) (fun _ _ _ h => h) (Or.inl ⟨by rfl, ?hy8⟩) (by assumption) ?rest8
      case hy8 => (intro w hSw; obtain ⟨p0,p1,p2,p3,p4,p5⟩ := hSw; go_simp; try with_reducible rfl)
      try simp only [Act.put, List.setIfInBounds_toArray, List.set_cons_zero, List.set_cons_succ]
      refine wpAnyH_take (i := 8) (oi := ⟨some 60, _, _, _, _, _⟩) (v := (.pointer (some ⟨g2, ok, none⟩))) rfl (by kernel_rfl) (by kernel_rfl) (by kernel_rfl) (fun _ _ _ h => h) (Or.inl ⟨by rfl, ?hy9⟩) (by assumption) ?rest9
      case hy9 => (intro w hSw; obtain ⟨p0,p1,p2,p3,p4,p5⟩ := hSw; first | (go_simp; done) | (go_simp; simp [*]; done) | (simp [*]; go_simp; done))
      try simp only [Act.put, List.setIfInBounds_toArray, List.set_cons_zero, List.set_cons_succ]
      refine wpAnyH_take (i := 9) (oi := ⟨some 61, _, _, _, _, _⟩) (v := (.agg #[.string x1, .string x2])) rfl (by kernel_rfl) (by kernel_rfl) (by kernel_rfl) (fun _ _ _ h => h) (Or.inl ⟨by rfl, ?hy10⟩) (by assumption) ?rest10
      case hy10 => (intro w hSw; obtain ⟨p0,p1,p2,p3,p4,p5⟩ := hSw; first | (go_simp; done) | (go_simp; simp [*]; done) | (simp [*]; go_simp; done))
      try simp only [Act.put, List.setIfInBounds_toArray, List.set_cons_zero, List.set_cons_succ]
      refine wpAnyH_take (i := 10) (oi := ⟨some 62, _, _, _, _, _⟩) (v := (.bool false)) rfl (by kernel_rfl) (by kernel_rfl) (by kernel_rfl) (fun _ _ _ h => h) (Or.inl ⟨by rfl, ?hy11⟩) (by assumption) ?rest11
      case hy11 => (intro w hSw; obtain ⟨p0,p1,p2,p3,p4,p5⟩ := hSw; first | (go_simp; done) | (go_simp; simp [*]; done) | (simp [*]; go_simp; done))
      try simp only [Act.put, List.setIfInBounds_toArray, List.set_cons_zero, List.set_cons_succ]
      refine wpAnyH_done (by kernel_rfl) ?_ _
      clear hHeld HS a1 a2 b1 b2 d3 e3
      go_wp2
      go_roundw
      case measure => simp [intOf]; omega
      case rel => exact ⟨k + 1, by omega, by go_num, KB.out.drew⟩
    · have hz : ¬ (k : Int) < (L : Int) := by omega
      have d4 := nu D4.out
      have e4 := nu E4.out
      have KB0 := keep KB.out
      clear nu KB
      go_wp2_with fail
      clear d3 e3 d4 e4
      obtain ⟨W3, hW3⟩ : ∃ x, x = wr := ⟨_, rfl⟩
      subst hW3
      go_loopw [6] (fun i wy => ∃ k : Nat, k ≤ M ∧ i = .int .i64 k ∧ Kept (Below W2.heap.size W2 wy)) (fun i _ => M - (intOf i).toNat)
      case atStart => exact ⟨0, Nat.zero_le _, rfl, KB0.out⟩
      case round =>
        obtain ⟨j, hj, rfl, KB⟩ := hrel
        have nu : ∀ {p : Addr} {v : Value}, W2.cell? p = some v → wr.cell? p = some v := fun {p v} h => (KB.out.cell (p := p) (World.block_lt_of_cell? _ _ h)).trans h
        have d4 := nu D4.out
        have e4 := nu E4.out
        by_cases hlj : j < M
        · have jz : (j : Int) < (M : Int) := by omega
          have jz0 : (0 : Int) ≤ (j : Int) := by omega
          obtain ⟨x, hx⟩ : ∃ x, rs[j]? = some x := ⟨_, List.getElem?_eq_getElem (by rw [HM.out]; exact hlj)⟩
          obtain ⟨g1, rfl, hg1⟩ := own_some R1.out (by omega)
          obtain ⟨g2, rfl, hg2⟩ := own_some R2.out (by omega)
          have q1 : Ra W2 (.slice (some ⟨g1, 0, none⟩) M rc) rs := by unfold Ra; rw [HM.out]; exact R1.out
          have q2 : Ra W2 (.slice (some ⟨g2, 0, none⟩) M rc') rs := by unfold Ra; rw [HM.out]; exact R2.out
          obtain ⟨a1, a2⟩ := q1.at hx
          obtain ⟨b1, b2⟩ := q2.at hx
          obtain ⟨x1, x2⟩ := x
          dsimp only at a1 a2 b1 b2
          have a1 := nu a1
          have a2 := nu a2
          have b1 := nu b1
          have b2 := nu b2
          obtain ⟨ok, hok⟩ : ∃ ok, j * 2 = ok := ⟨_, rfl⟩
          rw [hok] at a1 a2 b1 b2
          have t1 : (x1.toList == x1.toList) = true := beq_self_eq_true _
          have t2 : (x1.toList != x1.toList) = false := by simp
          have KW : IntKind.i64.wrap ((j : Int) + 1) = ((j + 1 : Nat) : Int) := by rw [IntKind.wrap_i64]; omega
          clear hx q1 q2 nu
          have HS : Kept (wr.drew.cell? ⟨w.heap.size, 4, none⟩ = some (.slice (some ⟨g1, 0, none⟩) M rc) ∧ wr.drew.cell? ⟨w.heap.size + 1, 4, none⟩ = some (.slice (some ⟨g2, 0, none⟩) M rc') ∧ wr.drew.cell? ⟨g1, ok, none⟩ = some (.string x1) ∧ wr.drew.cell? ⟨g1, ok + 1, none⟩ = some (.float .f64 x2) ∧ wr.drew.cell? ⟨g2, ok, none⟩ = some (.string x1) ∧ wr.drew.cell? ⟨g2, ok + 1, none⟩ = some (.float .f64 x2)) := ⟨d4, e4, a1, a2, b1, b2⟩
          go_wp2_with fail
          refine wp_region_held_drew (S := fun W => W.cell? ⟨w.heap.size, 4, none⟩ = some (.slice (some ⟨g1, 0, none⟩) M rc) ∧ W.cell? ⟨w.heap.size + 1, 4, none⟩ = some (.slice (some ⟨g2, 0, none⟩) M rc') ∧ W.cell? ⟨g1, ok, none⟩ = some (.string x1) ∧ W.cell? ⟨g1, ok + 1, none⟩ = some (.float .f64 x2) ∧ W.cell? ⟨g2, ok, none⟩ = some (.string x1) ∧ W.cell? ⟨g2, ok + 1, none⟩ = some (.float .f64 x2)) (by kernel_rfl) HS.out (fun hHeld => ?_)
          refine wpAnyH_take (i := 0) (oi := ⟨some 70, _, _, _, _, _⟩) (v := (.pointer (some ⟨w.heap.size, 4, none⟩))) rfl (by kernel_rfl) (by kernel_rfl) (by kernel_rfl) (fun _ _ _ h => h) (Or.inl ⟨by rfl, ?hy12⟩) (by assumption) ?rest12
          case hy12 => (intro w hSw; obtain ⟨p0,p1,p2,p3,p4,p5⟩ := hSw; first | (go_simp; done) | (go_simp; simp [*]; done) | (simp [*]; go_simp; done))
          try simp only [Act.put, List.setIfInBounds_toArray, List.set_cons_zero, List.set_cons_succ]
          refine wpAnyH_take (i := 1) (oi := ⟨some 71, _, _, _, _, _⟩) (v := (.slice (some ⟨g1, 0, none⟩) M rc)) rfl (by kernel_rfl) (by kernel_rfl) (by kernel_rfl) (fun _ _ _ h => h) (Or.inl ⟨by rfl, ?hy13⟩) (by assumption) ?rest13
          case hy13 => (intro w hSw; obtain ⟨p0,p1,p2,p3,p4,p5⟩ := hSw; first | (go_simp; done) | (go_simp; simp [*]; done) | (simp [*]; go_simp; done))
          try simp only [Act.put, List.setIfInBounds_toArray, List.set_cons_zero, List.set_cons_succ]
          refine wpAnyH_take (i := 2) (oi := ⟨some 72, _, _, _, _, _⟩) (v := ?v14) rfl (by kernel_rfl) (by kernel_rfl) (by kernel_rfl) (fun _ _ _ h => h) (Or.inl ⟨by rfl, ?hy14⟩) (by assumption) ?rest14
          case hy14 => (intro w hSw; obtain ⟨p0,p1,p2,p3,p4,p5⟩ := hSw; go_simp; try with_reducible rfl)
          try simp only [Act.put, List.setIfInBounds_toArray, List.set_cons_zero, List.set_cons_succ]
          refine wpAnyH_take (i := 3) (oi := ⟨some 73, _, _, _, _, _⟩) (v := (.pointer (some ⟨g1, ok, none⟩))) rfl (by kernel_rfl) (by kernel_rfl) (by kernel_rfl) (fun _ _ _ h => h) (Or.inl ⟨by rfl, ?hy15⟩) (by assumption) ?rest15
          case hy15 => (intro w hSw; obtain ⟨p0,p1,p2,p3,p4,p5⟩ := hSw; first | (go_simp; done) | (go_simp; simp [*]; done) | (simp [*]; go_simp; done))
          try simp only [Act.put, List.setIfInBounds_toArray, List.set_cons_zero, List.set_cons_succ]
          refine wpAnyH_take (i := 4) (oi := ⟨some 74, _, _, _, _, _⟩) (v := (.pointer (some ⟨g1, ok, none⟩))) rfl (by kernel_rfl) (by kernel_rfl) (by kernel_rfl) (fun _ _ _ h => h) (Or.inl ⟨by rfl, ?hy16⟩) (by assumption) ?rest16
          case hy16 => (intro w hSw; obtain ⟨p0,p1,p2,p3,p4,p5⟩ := hSw; first | (go_simp; done) | (go_simp; simp [*]; done) | (simp [*]; go_simp; done))
          try simp only [Act.put, List.setIfInBounds_toArray, List.set_cons_zero, List.set_cons_succ]
          refine wpAnyH_take (i := 5) (oi := ⟨some 75, _, _, _, _, _⟩) (v := ?v17) rfl (by kernel_rfl) (by kernel_rfl) (by kernel_rfl) (fun _ _ _ h => h) (Or.inl ⟨by rfl, ?hy17⟩) (by assumption) ?rest17
          case hy17 => (intro w hSw; obtain ⟨p0,p1,p2,p3,p4,p5⟩ := hSw; go_simp; try with_reducible rfl)
          try simp only [Act.put, List.setIfInBounds_toArray, List.set_cons_zero, List.set_cons_succ]
          refine wpAnyH_take (i := 6) (oi := ⟨some 76, _, _, _, _, _⟩) (v := (.pointer (some ⟨w.heap.size + 1, 4, none⟩))) rfl (by kernel_rfl) (by kernel_rfl) (by kernel_rfl) (fun _ _ _ h => h) (Or.inl ⟨by rfl, ?hy18⟩) (by assumption) ?rest18
          case hy18 => (intro w hSw; obtain ⟨p0,p1,p2,p3,p4,p5⟩ := hSw; first | (go_simp; done) | (go_simp; simp [*]; done) | (simp [*]; go_simp; done))
          try simp only [Act.put, List.setIfInBounds_toArray, List.set_cons_zero, List.set_cons_succ]
          refine wpAnyH_take (i := 7) (oi := ⟨some 77, _, _, _, _, _⟩) (v := (.slice (some ⟨g2, 0, none⟩) M rc')) rfl (by kernel_rfl) (by kernel_rfl) (by kernel_rfl) (fun _ _ _ h => h) (Or.inl ⟨by rfl, ?hy19⟩) (by assumption) ?rest19
          case hy19 => (intro w hSw; obtain ⟨p0,p1,p2,p3,p4,p5⟩ := hSw; first | (go_simp; done) | (go_simp; simp [*]; done) | (simp [*]; go_simp; done))
          try simp only [Act.put, List.setIfInBounds_toArray, List.set_cons_zero, List.set_cons_succ]
          refine wpAnyH_take (i := 8) (oi := ⟨some 78, _, _, _, _, _⟩) (v := ?v20) rfl (by kernel_rfl) (by kernel_rfl) (by kernel_rfl) (fun _ _ _ h => h) (Or.inl ⟨by rfl, ?hy20⟩) (by assumption) ?rest20
          case hy20 => (intro w hSw; obtain ⟨p0,p1,p2,p3,p4,p5⟩ := hSw; go_simp; try with_reducible rfl)
          try simp only [Act.put, List.setIfInBounds_toArray, List.set_cons_zero, List.set_cons_succ]
          refine wpAnyH_take (i := 9) (oi := ⟨some 79, _, _, _, _, _⟩) (v := (.pointer (some ⟨g2, ok, none⟩))) rfl (by kernel_rfl) (by kernel_rfl) (by kernel_rfl) (fun _ _ _ h => h) (Or.inl ⟨by rfl, ?hy21⟩) (by assumption) ?rest21
          case hy21 => (intro w hSw; obtain ⟨p0,p1,p2,p3,p4,p5⟩ := hSw; first | (go_simp; done) | (go_simp; simp [*]; done) | (simp [*]; go_simp; done))
          try simp only [Act.put, List.setIfInBounds_toArray, List.set_cons_zero, List.set_cons_succ]
          refine wpAnyH_take (i := 10) (oi := ⟨some 80, _, _, _, _, _⟩) (v := (.pointer (some ⟨g2, ok, none⟩))) rfl (by kernel_rfl) (by kernel_rfl) (by kernel_rfl) (fun _ _ _ h => h) (Or.inl ⟨by rfl, ?hy22⟩) (by assumption) ?rest22
          case hy22 => (intro w hSw; obtain ⟨p0,p1,p2,p3,p4,p5⟩ := hSw; first | (go_simp; done) | (go_simp; simp [*]; done) | (simp [*]; go_simp; done))
          try simp only [Act.put, List.setIfInBounds_toArray, List.set_cons_zero, List.set_cons_succ]
          refine wpAnyH_take (i := 11) (oi := ⟨some 81, _, _, _, _, _⟩) (v := ?v23) rfl (by kernel_rfl) (by kernel_rfl) (by kernel_rfl) (fun _ _ _ h => h) (Or.inl ⟨by rfl, ?hy23⟩) (by assumption) ?rest23
          case hy23 => (intro w hSw; obtain ⟨p0,p1,p2,p3,p4,p5⟩ := hSw; go_simp; try with_reducible rfl)
          try simp only [Act.put, List.setIfInBounds_toArray, List.set_cons_zero, List.set_cons_succ]
          refine wpAnyH_take (i := 12) (oi := ⟨some 82, _, _, _, _, _⟩) (v := (.bool false)) rfl (by kernel_rfl) (by kernel_rfl) (by kernel_rfl) (fun _ _ _ h => h) (Or.inl ⟨by rfl, ?hy24⟩) (by assumption) ?rest24
          case hy24 => (intro w hSw; obtain ⟨p0,p1,p2,p3,p4,p5⟩ := hSw; first | (go_simp; done) | (go_simp; simp [*]; done) | (simp [*]; go_simp; done))
          try simp only [Act.put, List.setIfInBounds_toArray, List.set_cons_zero, List.set_cons_succ]
          refine wpAnyH_take (i := 13) (oi := ⟨some 83, _, _, _, _, _⟩) (v := ?v25) rfl (by kernel_rfl) (by kernel_rfl) (by kernel_rfl) (fun _ _ _ h => h) (Or.inl ⟨by rfl, ?hy25⟩) (by assumption) ?rest25
          case hy25 => (intro w hSw; obtain ⟨p0,p1,p2,p3,p4,p5⟩ := hSw; go_simp; try with_reducible rfl)
          try simp only [Act.put, List.setIfInBounds_toArray, List.set_cons_zero, List.set_cons_succ]
          refine wpAnyH_take (i := 14) (oi := ⟨some 84, _, _, _, _, _⟩) (v := (.pointer (some ⟨w.heap.size, 4, none⟩))) rfl (by kernel_rfl) (by kernel_rfl) (by kernel_rfl) (fun _ _ _ h => h) (Or.inl ⟨by rfl, ?hy26⟩) (by assumption) ?rest26
          case hy26 => (intro w hSw; obtain ⟨p0,p1,p2,p3,p4,p5⟩ := hSw; first | (go_simp; done) | (go_simp; simp [*]; done) | (simp [*]; go_simp; done))
          try simp only [Act.put, List.setIfInBounds_toArray, List.set_cons_zero, List.set_cons_succ]
          refine wpAnyH_take (i := 15) (oi := ⟨some 85, _, _, _, _, _⟩) (v := (.slice (some ⟨g1, 0, none⟩) M rc)) rfl (by kernel_rfl) (by kernel_rfl) (by kernel_rfl) (fun _ _ _ h => h) (Or.inl ⟨by rfl, ?hy27⟩) (by assumption) ?rest27
          case hy27 => (intro w hSw; obtain ⟨p0,p1,p2,p3,p4,p5⟩ := hSw; first | (go_simp; done) | (go_simp; simp [*]; done) | (simp [*]; go_simp; done))
          try simp only [Act.put, List.setIfInBounds_toArray, List.set_cons_zero, List.set_cons_succ]
          refine wpAnyH_take (i := 16) (oi := ⟨some 86, _, _, _, _, _⟩) (v := ?v28) rfl (by kernel_rfl) (by kernel_rfl) (by kernel_rfl) (fun _ _ _ h => h) (Or.inl ⟨by rfl, ?hy28⟩) (by assumption) ?rest28
          case hy28 => (intro w hSw; obtain ⟨p0,p1,p2,p3,p4,p5⟩ := hSw; go_simp; try with_reducible rfl)
          try simp only [Act.put, List.setIfInBounds_toArray, List.set_cons_zero, List.set_cons_succ]
          refine wpAnyH_take (i := 17) (oi := ⟨some 87, _, _, _, _, _⟩) (v := (.pointer (some ⟨g1, ok, none⟩))) rfl (by kernel_rfl) (by kernel_rfl) (by kernel_rfl) (fun _ _ _ h => h) (Or.inl ⟨by rfl, ?hy29⟩) (by assumption) ?rest29
          case hy29 => (intro w hSw; obtain ⟨p0,p1,p2,p3,p4,p5⟩ := hSw; first | (go_simp; done) | (go_simp; simp [*]; done) | (simp [*]; go_simp; done))
          try simp only [Act.put, List.setIfInBounds_toArray, List.set_cons_zero, List.set_cons_succ]
          refine wpAnyH_take (i := 18) (oi := ⟨some 88, _, _, _, _, _⟩) (v := (.pointer (some ⟨g1, ok + 1, none⟩))) rfl (by kernel_rfl) (by kernel_rfl) (by kernel_rfl) (fun _ _ _ h => h) (Or.inl ⟨by rfl, ?hy30⟩) (by assumption) ?rest30
          case hy30 => (intro w hSw; obtain ⟨p0,p1,p2,p3,p4,p5⟩ := hSw; first | (go_simp; done) | (go_simp; simp [*]; done) | (simp [*]; go_simp; done))
          try simp only [Act.put, List.setIfInBounds_toArray, List.set_cons_zero, List.set_cons_succ]
          refine wpAnyH_take (i := 19) (oi := ⟨some 89, _, _, _, _, _⟩) (v := ?v31) rfl (by kernel_rfl) (by kernel_rfl) (by kernel_rfl) (fun _ _ _ h => h) (Or.inl ⟨by rfl, ?hy31⟩) (by assumption) ?rest31
          case hy31 => (intro w hSw; obtain ⟨p0,p1,p2,p3,p4,p5⟩ := hSw; go_simp; try with_reducible rfl)
          try simp only [Act.put, List.setIfInBounds_toArray, List.set_cons_zero, List.set_cons_succ]
          refine wpAnyH_take (i := 20) (oi := ⟨some 90, _, _, _, _, _⟩) (v := (.pointer (some ⟨w.heap.size + 1, 4, none⟩))) rfl (by kernel_rfl) (by kernel_rfl) (by kernel_rfl) (fun _ _ _ h => h) (Or.inl ⟨by rfl, ?hy32⟩) (by assumption) ?rest32
          case hy32 => (intro w hSw; obtain ⟨p0,p1,p2,p3,p4,p5⟩ := hSw; first | (go_simp; done) | (go_simp; simp [*]; done) | (simp [*]; go_simp; done))
          try simp only [Act.put, List.setIfInBounds_toArray, List.set_cons_zero, List.set_cons_succ]
          refine wpAnyH_take (i := 21) (oi := ⟨some 91, _, _, _, _, _⟩) (v := (.slice (some ⟨g2, 0, none⟩) M rc')) rfl (by kernel_rfl) (by kernel_rfl) (by kernel_rfl) (fun _ _ _ h => h) (Or.inl ⟨by rfl, ?hy33⟩) (by assumption) ?rest33
          case hy33 => (intro w hSw; obtain ⟨p0,p1,p2,p3,p4,p5⟩ := hSw; first | (go_simp; done) | (go_simp; simp [*]; done) | (simp [*]; go_simp; done))
          try simp only [Act.put, List.setIfInBounds_toArray, List.set_cons_zero, List.set_cons_succ]
          refine wpAnyH_take (i := 22) (oi := ⟨some 92, _, _, _, _, _⟩) (v := ?v34) rfl (by kernel_rfl) (by kernel_rfl) (by kernel_rfl) (fun _ _ _ h => h) (Or.inl ⟨by rfl, ?hy34⟩) (by assumption) ?rest34
          case hy34 => (intro w hSw; obtain ⟨p0,p1,p2,p3,p4,p5⟩ := hSw; go_simp; try with_reducible rfl)
          try simp only [Act.put, List.setIfInBounds_toArray, List.set_cons_zero, List.set_cons_succ]
          refine wpAnyH_take (i := 23) (oi := ⟨some 93, _, _, _, _, _⟩) (v := (.pointer (some ⟨g2, ok, none⟩))) rfl (by kernel_rfl) (by kernel_rfl) (by kernel_rfl) (fun _ _ _ h => h) (Or.inl ⟨by rfl, ?hy35⟩) (by assumption) ?rest35
          case hy35 => (intro w hSw; obtain ⟨p0,p1,p2,p3,p4,p5⟩ := hSw; first | (go_simp; done) | (go_simp; simp [*]; done) | (simp [*]; go_simp; done))
          try simp only [Act.put, List.setIfInBounds_toArray, List.set_cons_zero, List.set_cons_succ]
          refine wpAnyH_take (i := 24) (oi := ⟨some 94, _, _, _, _, _⟩) (v := (.pointer (some ⟨g2, ok + 1, none⟩))) rfl (by kernel_rfl) (by kernel_rfl) (by kernel_rfl) (fun _ _ _ h => h) (Or.inl ⟨by rfl, ?hy36⟩) (by assumption) ?rest36
          case hy36 => (intro w hSw; obtain ⟨p0,p1,p2,p3,p4,p5⟩ := hSw; first | (go_simp; done) | (go_simp; simp [*]; done) | (simp [*]; go_simp; done))
          try simp only [Act.put, List.setIfInBounds_toArray, List.set_cons_zero, List.set_cons_succ]
          refine wpAnyH_take (i := 25) (oi := ⟨some 95, _, _, _, _, _⟩) (v := ?v37) rfl (by kernel_rfl) (by kernel_rfl) (by kernel_rfl) (fun _ _ _ h => h) (Or.inl ⟨by rfl, ?hy37⟩) (by assumption) ?rest37
          case hy37 => (intro w hSw; obtain ⟨p0,p1,p2,p3,p4,p5⟩ := hSw; go_simp; try with_reducible rfl)
          try simp only [Act.put, List.setIfInBounds_toArray, List.set_cons_zero, List.set_cons_succ]
          refine wpAnyH_ready (rs := [26]) (by kernel_rfl) (by simp) ?_
          refine AllReadyH.cons (o := ⟨some 96, _, _, _, _, _⟩) rfl (fun K hK => ?_) AllReadyH.nil
          go_simp
          refine (float_same _ _).mono ?_
          rintro _ _ ⟨rfl, hw⟩
          obtain rfl := hw.symm
          refine hK.out _ _ HS.out (fun hHeld => ?_)
          try simp only [Act.put, List.setIfInBounds_toArray, List.set_cons_zero, List.set_cons_succ]
          clear hK
          refine wpAnyH_take (i := 27) (oi := ⟨some 97, _, _, _, _, _⟩) (v := (.bool false)) rfl (by kernel_rfl) (by kernel_rfl) (by kernel_rfl) (fun _ _ _ h => h) (Or.inl ⟨by rfl, ?hy38⟩) (by assumption) ?rest38
          case hy38 => (intro w hSw; first | (go_simp; done) | (go_simp; simp [*]; done) | (simp [*]; go_simp; done))
          try simp only [Act.put, List.setIfInBounds_toArray, List.set_cons_zero, List.set_cons_succ]
          refine wpAnyH_take (i := 28) (oi := ⟨some 98, _, _, _, _, _⟩) (v := (.bool false)) rfl (by kernel_rfl) (by kernel_rfl) (by kernel_rfl) (fun _ _ _ h => h) (Or.inl ⟨by rfl, ?hy39⟩) (by assumption) ?rest39
          case hy39 => (intro w hSw; first | (go_simp; done) | (go_simp; simp [*]; done) | (simp [*]; go_simp; done))
          try simp only [Act.put, List.setIfInBounds_toArray, List.set_cons_zero, List.set_cons_succ]
          refine wpAnyH_done (by kernel_rfl) ?_ _
          clear hHeld HS a1 a2 b1 b2 d4 e4
          go_wp2
          go_roundw
          case measure => simp [intOf]; omega
          case rel => exact ⟨j + 1, by omega, by go_num, KB.out.drew⟩
        · have jz : ¬ (j : Int) < (M : Int) := by omega
          clear nu
          go_wp2
          go_ret
          exact ⟨rfl, HB.out.trans (KB.out.mono HB.out.size)⟩
end Vl
end Go.Proofs.YtmgeaanbgjbkcaaGreat
