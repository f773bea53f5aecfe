/-
  What put begins with: the reply is laid into a block, its mark behind the bytes.
-/
import Derived.Test.YtoalnfkjpdgbiaaDoorRpTexts
/-
  Replies in the memory: what the cells of one tell, and of a list of them.
-/
namespace Go.Proofs.YtoalnfkjpdgbiaaDoor
open Go.RowKit
set_option linter.unusedVariables false
/-- a list of replies in the memory: tl says what the cells of one tell; P: which blocks may be theirs -/
def Lst {α : Type} (P : Nat → Prop) (w : World) (tl : List Value → α → Prop) (v : Value) (l : List α) : Prop :=
  (l = [] ∧ ∃ ao, v = .slice ao 0 0) ∨
  (∃ g cap cur, v = .slice (some ⟨g, 0, none⟩) l.length cap ∧ l ≠ [] ∧ P g ∧ w.heap[g]? = some (.cells cur 25 (0, 0)) ∧ l.length ≤ cap ∧ cap ≤ maxLen ∧ cur.size = cap * 4 ∧ ∀ j x, l[j]? = some x → tl ((cur.toList.drop (j * 4)).take 4) x)
def I64 (n : Int) : Prop := -9223372036854775808 ≤ n ∧ n ≤ 9223372036854775807
/-- the cells of a reply tell r -/
def Tel (P : Nat → Prop) (w : World) : (n : Nat) → List Value → Rp.T n → Prop
  | 0 => fun _ r => nomatch r
  | n + 1 => fun cs r => ∃ v, cs = [.int .i64 (Rp.kd r), .string (Rp.tx r), .int .i64 (Rp.nm r), v] ∧ Lst P w (Tel P w n) v (Rp.ls r) ∧ I64 (Rp.kd r) ∧ I64 (Rp.nm r) ∧ (Rp.tx r).size < 4294967281
theorem Lst.mono {α : Type} {P P' : Nat → Prop} {w w' : World} {tl tl' : List Value → α → Prop} {v : Value} {l : List α} (h : Lst P w tl v l) (hP : ∀ b, P b → P' b) (hw : ∀ b, P b → w'.heap[b]? = w.heap[b]?) (ht : ∀ cs x, tl cs x → tl' cs x) : Lst P' w' tl' v l := by
  rcases h with h | ⟨g, cap, cur, h1, h2, h3, h4, h5, h6, h7, h8⟩
  · exact .inl h
  · exact .inr ⟨g, cap, cur, h1, h2, hP g h3, by rw [hw g h3]; exact h4, h5, h6, h7, fun j x hx => ht _ _ (h8 j x hx)⟩
/-- it is told as long as its blocks stand -/
theorem Tel.mono {P P' : Nat → Prop} {w w' : World} (hP : ∀ b, P b → P' b) (hw : ∀ b, P b → w'.heap[b]? = w.heap[b]?) : ∀ (n : Nat) (cs : List Value) (r : Rp.T n), Tel P w n cs r → Tel P' w' n cs r
  | 0, _, r, _ => nomatch r
  | n + 1, cs, r, h => by
    obtain ⟨v, h1, h2, h3, h4, h5⟩ := h
    exact ⟨v, h1, h2.mono hP hw (fun cs x hx => Tel.mono hP hw n cs x hx), h3, h4, h5⟩
theorem Tel.below {B : Nat} {w w' : World} (hb : Below B w w') {n : Nat} {cs : List Value} {r : Rp.T n} (h : Tel (· < B) w n cs r) : Tel (· < B) w' n cs r :=
  Tel.mono (fun _ h => h) (fun b hlt => hb.block b hlt) n cs r h
theorem Tel.cells {P : Nat → Prop} {w : World} {n : Nat} {cs : List Value} {r : Rp.T n} (h : Tel P w n cs r) : ∃ k s i v, cs = [.int .i64 k, .string s, .int .i64 i, v] := by
  cases n with
  | zero => exact nomatch r
  | succ n => obtain ⟨v, h1, _⟩ := h; exact ⟨_, _, _, _, h1⟩
theorem Lst.form {α : Type} {P : Nat → Prop} {w : World} {tl : List Value → α → Prop} {v : Value} {l : List α} (h : Lst P w tl v l) : ∃ ao c, v = .slice ao l.length c ∧ l.length ≤ c ∧ c ≤ maxLen := by
  rcases h with ⟨rfl, ao, rfl⟩ | ⟨g, cap, cur, rfl, h2, h3, h4, h5, h6, _⟩
  · exact ⟨ao, 0, rfl, Nat.le_refl _, by unfold maxLen; omega⟩
  · exact ⟨_, cap, rfl, h5, h6⟩
/-- one of them: where it lies, and its cells -/
theorem Lst.at {α : Type} {P : Nat → Prop} {w : World} {tl : List Value → α → Prop} {v : Value} {l : List α} (h : Lst P w tl v l) {j : Nat} {x : α} (hx : l[j]? = some x) (h4 : ∀ cs, tl cs x → cs.length = 4) :
    ∃ g cap, v = .slice (some ⟨g, 0, none⟩) l.length cap ∧ P g ∧ ∃ c0 c1 c2 c3, tl [c0, c1, c2, c3] x ∧ w.cell? ⟨g, j * 4, none⟩ = some c0 ∧ w.cell? ⟨g, j * 4 + 1, none⟩ = some c1 ∧ w.cell? ⟨g, j * 4 + 2, none⟩ = some c2 ∧ w.cell? ⟨g, j * 4 + 3, none⟩ = some c3 := by
  rcases h with ⟨rfl, _⟩ | ⟨g, cap, cur, h1, h2, h3, hg, h5, h6, h7, h8⟩
  · simp at hx
  · have ht := h8 j x hx
    have hl := h4 _ ht
    have hc : ∀ i, i < 4 → w.cell? ⟨g, j * 4 + i, none⟩ = ((cur.toList.drop (j * 4)).take 4)[i]? := fun i hi => by
      rw [List.getElem?_take, if_pos hi, List.getElem?_drop, cell_of_row _ _ _ _ _ _ hg, Array.getElem?_toList]
    match hq : (cur.toList.drop (j * 4)).take 4 with
    | [c0, c1, c2, c3] =>
      rw [hq] at ht hc
      exact ⟨g, cap, h1, h3, c0, c1, c2, c3, ht, hc 0 (by omega), hc 1 (by omega), hc 2 (by omega), hc 3 (by omega)⟩
    | [] => rw [hq] at hl; simp at hl
    | [_] => rw [hq] at hl; simp at hl
    | [_, _] => rw [hq] at hl; simp at hl
    | [_, _, _] => rw [hq] at hl; simp at hl
    | _ :: _ :: _ :: _ :: _ :: _ => rw [hq] at hl; simp at hl
theorem Tel.six {P : Nat → Prop} {w : World} {n : Nat} {cs : List Value} {r : Rp.T n} (h : Tel P w n cs r) : ∃ k s i ao m c, cs = [.int .i64 k, .string s, .int .i64 i, .slice ao m c] ∧ I64 k ∧ I64 i ∧ s.size < 4294967281 := by
  cases n with
  | zero => exact nomatch r
  | succ n => obtain ⟨v, h1, h2, h3, h4, h5⟩ := h; obtain ⟨ao, c, rfl, _⟩ := h2.form; exact ⟨_, _, _, _, _, _, h1, h3, h4, h5⟩
theorem Tel.four {P : Nat → Prop} {w : World} {n : Nat} {cs : List Value} {r : Rp.T n} (h : Tel P w n cs r) : cs.length = 4 := by
  obtain ⟨k, s, i, v, rfl⟩ := h.cells
  rfl
end Go.Proofs.YtoalnfkjpdgbiaaDoor

/-
  Contracts over this program: putLine.
-/
namespace Go.Proofs.YtoalnfkjpdgbiaaDoor
open Go.RowKit
set_option linter.unusedVariables false
theorem crlf_b : Rp.bytesOf ⟨#[13, 10]⟩ = Rp.crlf := rfl
set_option maxRecDepth 100000 in
set_option maxHeartbeats 1000000 in
theorem putLine_any {v : Value} {l : List UInt8} (s : ByteArray) (w : World) (h : Kb w v l) (hl : l.length + s.size + 2 ≤ 140737488351232) :
    Calls Tryd.prog 49 #[v, .string s] w fun e w' => ∃ ao n c, e = .returned (.slice ao n c) ∧ Kb w' (.slice ao n c) (l ++ Rp.bytesOf s ++ Rp.crlf) ∧ Gr v (.slice ao n c) w w' := by
  obtain ⟨v1, w1, r1, k1, b1⟩ := app_text h s (by omega) 29
  have e1 : (Rp.bytesOf s).length = s.size := Rp.bytes_len s
  obtain ⟨v2, w2, r2, k2, b2⟩ := app_text k1 ⟨#[13, 10]⟩ (by
    rw [List.length_append, e1]; show l.length + s.size + 2 ≤ _; omega) 29
  have R1 := keep r1
  have R2 := keep r2
  have K2 := keep k2
  have B2 := keep (b1.trans b2)
  obtain ⟨ao, c, rfl⟩ := k1.form
  obtain ⟨aoz, cz, rfl⟩ := k2.form
  obtain ⟨ao0, c0, rfl⟩ := h.form
  obtain ⟨n1, hn1⟩ : ∃ n, n = (l ++ Rp.bytesOf s).length := ⟨_, rfl⟩
  obtain ⟨n0, hn0⟩ : ∃ n, n = l.length := ⟨_, rfl⟩
  rw [← hn1] at R1 R2
  obtain ⟨nz, hnz⟩ : ∃ n, n = (l ++ Rp.bytesOf s ++ Rp.bytesOf ⟨#[13, 10]⟩).length := ⟨_, rfl⟩
  rw [← hnz] at R2 K2 B2
  rw [← hn0] at R1 B2
  rw [← hn0]
  clear k2 k1 b1 b2 h e1 hl r1 r2 hn0 hn1 hnz
  go_enter Tryd.func49, Tryd.ntmps49
  go_wp2_with (first | (show wpList _ _ _ ({ dst := some 7, op := Op.call { callee := Callee.builtin Builtin.append, args := _, argTypes := _ }, type := _, pos := _, after := _, guard := _ } :: _) _ _; refine wpList_app_run rfl _ _ _ _ rfl _ _ _ rfl rfl R1.out ?_) | (show wpList _ _ _ ({ dst := some 9, op := Op.call { callee := Callee.builtin Builtin.append, args := _, argTypes := _ }, type := _, pos := _, after := _, guard := _ } :: _) _ _; refine wpList_app_run rfl _ _ _ _ rfl _ _ _ rfl rfl R2.out ?_))
  go_ret
  exact ⟨_, _, _, rfl, K2.out, B2.out⟩
end Go.Proofs.YtoalnfkjpdgbiaaDoor

namespace Go.Proofs.YtoalnfkjpdgbiaaDoor
open Go.RowKit
set_option linter.unusedVariables false
/-- a block that holds a reply's four cells -/
def Box (w : World) (b : Nat) (a0 a1 a2 a3 : Value) : Prop := w.heap[b]? = some (.cells #[a0, a1, a2, a3] 25 (0, 0))
theorem Box.cells {w : World} {b : Nat} {a0 a1 a2 a3 : Value} (h : Box w b a0 a1 a2 a3) : w.cell? ⟨b, 0, none⟩ = some a0 ∧ w.cell? ⟨b, 1, none⟩ = some a1 ∧ w.cell? ⟨b, 2, none⟩ = some a2 ∧ w.cell? ⟨b, 3, none⟩ = some a3 := by
  refine ⟨?_, ?_, ?_, ?_⟩ <;> (rw [cell_of_row _ _ _ _ _ _ h]; rfl)
theorem Box.new (w : World) (a0 a1 a2 a3 : Value) : Box (w.alloc (.cells #[a0, a1, a2, a3] 25)) w.heap.size a0 a1 a2 a3 := heap_alloc_new _ _
theorem Box.lt {w : World} {b : Nat} {a0 a1 a2 a3 : Value} (h : Box w b a0 a1 a2 a3) : b < w.heap.size := (Array.getElem?_eq_some_iff.1 h).1
theorem Box.gr {w w' : World} {b : Nat} {a0 a1 a2 a3 v v' : Value} (h : Box w b a0 a1 a2 a3) (g : Gr v v' w w') (hf : Far v w b) : Box w' b a0 a1 a2 a3 := (g.same hf).trans h
theorem Box.below {w w' : World} {b B : Nat} {a0 a1 a2 a3 : Value} (h : Box w b a0 a1 a2 a3) (hb : Below B w w') (hB : b < B) : Box w' b a0 a1 a2 a3 := (hb.block b hB).trans h
theorem Tab.gr {w w' : World} {v v' : Value} (h : Tab w) (g : Gr v v' w w') (hf : Far v w 3) : Tab w' := by
  unfold Tab Lib.TabIs World.var? at h ⊢
  rw [gTab, Option.bind_some] at h ⊢
  rw [g.same hf]
  exact h
def marks : ByteArray := ⟨#[43, 45, 58, 36, 36, 42, 42]⟩
theorem put_head {v : Value} {l : List UInt8} (z : UInt8) (a0 a1 a2 a3 : Value) (w : World) (h : Kb w v l) (ht : Tab w) (hf : Far v w 3) (hl : l.length + 1 ≤ 140737488351232) :
    ∃ W1 W2 n1 c1 ao1 w1, w.alloc (.cells #[a0, a1, a2, a3] 25) = W1 ∧ W1.alloc (.cells #[.int .u8 z.toNat] 5) = W2 ∧ Box W1 w.heap.size a0 a1 a2 a3 ∧ Box w1 w.heap.size a0 a1 a2 a3 ∧
      (Builtin.append_ #[29, 29] 29 #[v, .slice (some ⟨W1.heap.size, 0, none⟩) 1 1]).run Tryd.prog W2 = .ok (.slice ao1 n1 c1) w1 ∧
      Kb w1 (.slice ao1 n1 c1) (l ++ [z]) ∧ Gr v (.slice ao1 n1 c1) w w1 ∧ Tab w1 ∧ Far (.slice ao1 n1 c1) w1 w.heap.size ∧ Far (.slice ao1 n1 c1) w1 3 := by
  obtain ⟨W1, hW1⟩ : ∃ x, x = w.alloc (.cells #[a0, a1, a2, a3] 25) := ⟨_, rfl⟩
  have b0 : Below w.heap.size w W1 := hW1 ▸ (Below.refl _ _).alloc (Nat.le_refl _) _
  have hs1 : w.heap.size < W1.heap.size := by rw [hW1]; show _ < (w.heap.push _).size; simp
  have k0 := h.later b0
  obtain ⟨v1, w1, r1, k1, g1⟩ := app_byte z k0 hl 29
  obtain ⟨ao, c, rfl⟩ := k1.form
  have x1 : Box W1 w.heap.size a0 a1 a2 a3 := hW1 ▸ Box.new w a0 a1 a2 a3
  have g : Gr v (.slice ao (l ++ [z]).length c) w w1 := Gr.ahead b0 g1 h.lt
  have f1 : Far v W1 w.heap.size := ⟨hs1, fun e => Nat.lt_irrefl _ (h.lt _ e)⟩
  exact ⟨W1, _, _, c, ao, w1, hW1.symm, rfl, x1, x1.gr g1 f1, r1, k1, g, ht.gr g hf, g1.far f1, g.far hf⟩
/-- what put leaves of a row of bytes, and of what it does not touch -/
def Put (v : Value) (l : List UInt8) (w : World) (e : Ending) (w' : World) : Prop := ∃ ao n c, e = .returned (.slice ao n c) ∧ Kb w' (.slice ao n c) l ∧ Gr v (.slice ao n c) w w'
end Go.Proofs.YtoalnfkjpdgbiaaDoor
