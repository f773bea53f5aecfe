/-
  What the closed statement asks of a deque: it is filled, a text is put, what the chunks are then.
-/
import Derived.Test.YtlfkdohajfkhdaaDqOne
import Derived.Test.YtlfkdohajfkhdaaDqTrim1
import Derived.Test.YtlfkdohajfkhdaaDqAt
namespace Go.Proofs.Ytlfkdohajfkhdaa
open Go.RowKit
set_option linter.unusedVariables false
/-- where a text is put, of the chunks' texts alone -/
def insC (s : ByteArray) : Nat → List (List ByteArray) → List (List ByteArray)
  | _, [] => [[s]]
  | i, [t] => insL i s t
  | i, t :: u :: r => if i < t.length then insL i s t ++ u :: r else t :: insC s (i - t.length) (u :: r)
theorem insC_at (s : ByteArray) (ts : List ByteArray) (B : List (List ByteArray)) (p : Nat) (hp : p ≤ ts.length) (hl : p < ts.length ∨ B = []) : ∀ (A : List (List ByteArray)), insC s (A.flatten.length + p) (A ++ ts :: B) = A ++ insL p s ts ++ B
  | [] => by
    cases B with
    | nil => simp [insC]
    | cons u r =>
      have := hl.resolve_right (by simp)
      simp [insC, this]
  | a :: A => by
    have h := insC_at s ts B p hp hl A
    rw [List.flatten_cons, List.length_append]
    cases hA : A ++ ts :: B with
    | nil => simp at hA
    | cons u r =>
      rw [List.cons_append, hA, insC, if_neg (by omega), show a.length + A.flatten.length + p - a.length = A.flatten.length + p by omega, ← hA, h]
      rfl
theorem ins_tx {cs cs' : List Chk} {i : Nat} {A : List Chk} {c : Nat} {ts : List ByteArray} {B : List Chk} {p : Nat} {s : ByteArray} (h : Home cs i A c ts B p) (ht : tx cs' = tx A ++ insL p s ts ++ tx B) : tx cs' = insC s i (tx cs) := by
  rw [ht]
  rcases h.is with e | ⟨e, rfl, rfl, rfl⟩
  · have e2 : tx cs = tx A ++ ts :: tx B := by rw [e, tx_app]; rfl
    have hi : i = (tx A).flatten.length + p := by rw [row_len_tx]; exact h.at'
    rw [e2, hi, insC_at s ts (tx B) p h.le (by rcases h.last with h | h; exact .inl h; exact .inr (by rw [h]; rfl)) (tx A)]
  · subst e
    have hp : p = 0 := by have := h.le; simpa using this
    subst hp
    rfl
/-- the byte of a place as a text; a deque that is filled -/
def bt1 (i : Nat) : ByteArray := ⟨#[UInt8.ofNat i]⟩
def fillC : Nat → List (List ByteArray)
  | 0 => []
  | n + 1 => pushB (bt1 n) (fillC n)
theorem fillC_len : ∀ n, (fillC n).flatten.length = n
  | 0 => rfl
  | n + 1 => by rw [fillC, pushB_flat, List.length_append, fillC_len n]; rfl
/-- a deque by its chunks' texts, that does not reach below W -/
def Kn (W : World) (b : Nat) (L : List (List ByteArray)) (w : World) : Prop := ∃ cs, Dq w b cs ∧ tx cs = L ∧ (∀ k, OwD b cs k → W.heap.size ≤ k) ∧ Below W.heap.size W w
/-- two of them -/
def Kt (W : World) (b1 b2 : Nat) (L1 L2 : List (List ByteArray)) (w : World) : Prop := ∃ c1 c2, (Dq w b1 c1 ∧ tx c1 = L1 ∧ ∀ k, OwD b1 c1 k → ¬ OwD b2 c2 k ∧ W.heap.size ≤ k) ∧ (Dq w b2 c2 ∧ tx c2 = L2 ∧ ∀ k, OwD b2 c2 k → W.heap.size ≤ k) ∧ Below W.heap.size W w
def Stb (P : World → Prop) : Prop := ∀ w w', P w → Below w.heap.size w w' → P w'
theorem Kn.step {W : World} {b : Nat} {L' : List (List ByteArray)} {w w' : World} {cs cs' : List Chk} (h3 : ∀ k, OwD b cs k → W.heap.size ≤ k) (h4 : Below W.heap.size W w) (g1 : Dq w' b cs') (g2 : Fd b cs w w' cs') (g3 : tx cs' = L') : Kn W b L' w' := by
  have hz := h4.size
  refine ⟨cs', g1, g3, fun k hk => ?_, h4.trans (g2.below hz fun k hk e => ?_)⟩
  · rcases g2.2 k hk with e | e
    · exact h3 k e
    · omega
  · have := h3 k e; omega
theorem Kn.stb {W : World} {b : Nat} {L : List (List ByteArray)} : Stb (Kn W b L) := by
  rintro w w' ⟨cs, h1, h2, h3, h4⟩ hb
  exact Kn.step h3 h4 (h1.below hb) (Fd.of_below hb) h2
theorem Kt.step {W : World} {b1 b2 : Nat} {L1 L2 L' : List (List ByteArray)} {w w' : World} {c1 c2 c1' : List Chk} (h : (Dq w b1 c1 ∧ tx c1 = L1 ∧ ∀ k, OwD b1 c1 k → ¬ OwD b2 c2 k ∧ W.heap.size ≤ k) ∧ (Dq w b2 c2 ∧ tx c2 = L2 ∧ ∀ k, OwD b2 c2 k → W.heap.size ≤ k) ∧ Below W.heap.size W w)
    (g1 : Dq w' b1 c1') (g2 : Fd b1 c1 w w' c1') (g3 : tx c1' = L') : Kt W b1 b2 L' L2 w' := by
  obtain ⟨⟨h1, h2, h3⟩, ⟨h4, h5, h6⟩, h9⟩ := h
  have hz := h9.size
  refine ⟨c1', c2, ⟨g1, g3, fun k hk => ?_⟩, ⟨h4.kept fun k hk => ?_, h5, h6⟩, h9.trans (g2.below hz fun k hk e => ?_)⟩
  · rcases g2.2 k hk with e | e
    · exact h3 k e
    · exact ⟨fun e' => by have := h4.1.lt e'; omega, by omega⟩
  · exact g2.1.2.2 k (h4.1.lt hk) (fun e => (h3 k e).1 hk)
  · have := (h3 k e).2; omega
theorem Kt.stb {W : World} {b1 b2 : Nat} {L1 L2 : List (List ByteArray)} : Stb (Kt W b1 b2 L1 L2) := by
  rintro w w' ⟨c1, c2, h⟩ hb
  exact Kt.step h (h.1.1.below hb) (Fd.of_below hb) h.1.2.1
theorem Kt.snd {W : World} {b1 b2 : Nat} {L1 L2 : List (List ByteArray)} {w : World} (h : Kt W b1 b2 L1 L2 w) : Kn W b2 L2 w := by
  obtain ⟨c1, c2, h1, ⟨h4, h5, h6⟩, h9⟩ := h
  exact ⟨c2, h4, h5, h6, h9⟩
/-- a deque with these texts is there -/
def Hs (b : Nat) (L : List (List ByteArray)) (w : World) : Prop := ∃ cs, Dq w b cs ∧ tx cs = L
theorem Kn.hs {W : World} {b : Nat} {L : List (List ByteArray)} {w : World} (h : Kn W b L w) : Hs b L w := by obtain ⟨cs, h1, h2, _⟩ := h; exact ⟨cs, h1, h2⟩
theorem Kt.hs {W : World} {b1 b2 : Nat} {L1 L2 : List (List ByteArray)} {w : World} (h : Kt W b1 b2 L1 L2 w) : Hs b1 L1 w := by obtain ⟨c1, c2, h1, _⟩ := h; exact ⟨c1, h1.1, h1.2.1⟩
/-- what a call does to a deque of these texts -/
def Dos (f : Nat) (args : Array Value) (b : Nat) (L : List (List ByteArray)) (r : Value) (L' : List (List ByteArray)) : Prop :=
  ∀ w cs, Dq w b cs → tx cs = L → Calls Try.prog f args w fun e w' => e = .returned r ∧ ∃ cs', Dq w' b cs' ∧ Fd b cs w w' cs' ∧ tx cs' = L'
theorem kn_do {W : World} {b f : Nat} {args : Array Value} {L L' : List (List ByteArray)} {r : Value} {w : World} (h : Kn W b L w) (hd : Dos f args b L r L') : Calls Try.prog f args w fun e w' => e = .returned r ∧ Kn W b L' w' := by
  obtain ⟨cs, h1, h2, h3, h4⟩ := h
  refine (hd w cs h1 h2).mono ?_
  rintro _ w' ⟨rfl, cs', g1, g2, g3⟩
  exact ⟨rfl, Kn.step h3 h4 g1 g2 g3⟩
theorem kt_do {W : World} {b1 b2 f : Nat} {args : Array Value} {L1 L2 L' : List (List ByteArray)} {r : Value} {w : World} (h : Kt W b1 b2 L1 L2 w) (hd : Dos f args b1 L1 r L') : Calls Try.prog f args w fun e w' => e = .returned r ∧ Kt W b1 b2 L' L2 w' := by
  obtain ⟨c1, c2, h⟩ := h
  refine (hd w c1 h.1.1 h.1.2.1).mono ?_
  rintro _ w' ⟨rfl, cs', g1, g2, g3⟩
  exact ⟨rfl, Kt.step h g1 g2 g3⟩
theorem dos_push {b : Nat} {L : List (List ByteArray)} (a : Bool) (s : ByteArray) (hs : s.size ≤ 1048576) (hn : L.flatten.length < 1048576) : Dos 18 #[ptr b, .bool a, .string s] b L (.int .i64 0) (if a then pushF s L else pushB s L) := by
  rintro w cs hd rfl
  rw [row_len_tx] at hn
  cases a with
  | true => exact push_ahead w b cs s hd hs hn
  | false => exact push_behind w b cs s hd hs hn
theorem dos_ins {b : Nat} {L : List (List ByteArray)} (i : Nat) (s : ByteArray) (hi : i ≤ L.flatten.length) (hs : s.size ≤ 1048576) (hn : L.flatten.length < 1048576) : Dos 21 #[ptr b, .int .i64 i, .string s] b L (.int .i64 0) (insC s i L) := by
  rintro w cs hd rfl
  rw [row_len_tx] at hn hi
  refine (insert_in w b cs i s hd hi hs hn).mono ?_
  rintro _ w' ⟨rfl, A, c, ts, B, p, cs', hh, g1, g2, g3⟩
  exact ⟨rfl, cs', g1, g2, ins_tx hh g3⟩
theorem dos_trim {b : Nat} {L : List (List ByteArray)} (f t : Int) : Dos 23 #[ptr b, .int .i64 f, .int .i64 t] b L (.tuple #[]) (trimC f t L) := by
  rintro w cs hd rfl
  exact trim_any w b cs f t hd
theorem hs_len {b : Nat} {L : List (List ByteArray)} {w : World} (h : Hs b L w) {n : Int} (hn : ((L.flatten.length : Nat) : Int) = n) : Calls Try.prog 24 #[ptr b] w fun e w' => e = .returned (.int .i64 n) ∧ w' = w := by
  obtain ⟨cs, h1, rfl⟩ := h
  subst hn
  rw [row_len_tx]
  exact len_any w b _ _ _ _ h1.1.1
theorem hs_cost {b : Nat} {L : List (List ByteArray)} {w : World} (h : Hs b L w) {n : Int} (hn : ((costL L.flatten : Nat) : Int) = n) : Calls Try.prog 30 #[ptr b] w fun e w' => e = .returned (.int .i64 n) ∧ w' = w := by
  obtain ⟨cs, h1, rfl⟩ := h
  subst hn
  rw [← row_tx]
  exact cost_any w b _ _ _ _ h1.1.1
theorem hs_out {b : Nat} {L : List (List ByteArray)} {w : World} (h : Hs b L w) (i : Int) (s : ByteArray) (hi : i < 0 ∨ ((L.flatten.length : Nat) : Int) < i) : Calls Try.prog 21 #[ptr b, .int .i64 i, .string s] w fun e w' => e = .returned (.int .i64 3) ∧ w' = w := by
  obtain ⟨cs, h1, rfl⟩ := h
  rw [row_len_tx] at hi
  exact insert_out w b cs i s h1 hi
theorem hs_at {P : World → Prop} (hP : Stb P) {b : Nat} {L : List (List ByteArray)} {w : World} (h : Hs b L w) (hp : P w) (i : Nat) (s : ByteArray) (hs : L.flatten[i]? = some s) : Calls Try.prog 28 #[ptr b, .int .i64 i] w fun e w' => e = .returned (.tuple #[.string s, .bool true]) ∧ P w' := by
  obtain ⟨cs, h1, rfl⟩ := h
  rw [← row_tx] at hs
  refine (at_in w b cs i h1 s hs).mono ?_
  rintro _ w' ⟨rfl, hb⟩
  exact ⟨rfl, hP _ _ hp hb⟩
/-- the chunks are asked, and are what they should be -/
theorem hs_chk {P : World → Prop} (hP : Stb P) {b : Nat} {L : List (List ByteArray)} {w : World} (h : Hs b L w) (hp : P w) (xs : List Int) (hx : (L.map fun t => ((t.length : Nat) : Int)) = xs) (n : Nat) (ar : Array Value) (hn : xs.length = n) (ha : (xs.map (Value.int .i64)).toArray = ar) (hm : n ≤ 100) :
    Calls Try.prog 29 #[ptr b] w fun e w' => ∃ ao cp, e = .returned (.slice ao n cp) ∧ P w' ∧ Calls Try.prog 32 #[.slice ao n cp, .slice (some ⟨w'.heap.size, 0, none⟩) n n] (w'.alloc (.cells ar 3)) fun e2 w2 => e2 = .returned (.bool true) ∧ P w2 := by
  obtain ⟨cs, h1, rfl⟩ := h
  refine (chunks_ki w b cs h1).mono ?_
  rintro _ w' ⟨⟨v, rfl, hk⟩, hb⟩
  rw [hx] at hk
  subst hn ha
  obtain ⟨ao, cp, rfl⟩ := ki_len hk
  have hp' := hP _ _ hp hb
  have hba : Below w'.heap.size w' (w'.alloc (.cells (xs.map (Value.int .i64)).toArray 3)) := (Below.refl _ _).alloc (Nat.le_refl _) _
  have hk2 : Ki w.heap.size (w'.alloc (.cells (xs.map (Value.int .i64)).toArray 3)) (.slice ao xs.length cp) xs := own_kept hk (fun k hk' => Below.heap_alloc _ _ _ (own_lt hk hk'))
  have hkl : Ki w'.heap.size (w'.alloc (.cells (xs.map (Value.int .i64)).toArray 3)) (.slice (some ⟨w'.heap.size, 0, none⟩) xs.length xs.length) xs :=
    ⟨by simp, .inr ⟨w'.heap.size, xs.length, _, rfl, Nat.le_refl _, heap_alloc_new _ _, Nat.le_refl _, by unfold maxLen; omega, by simp, by simp only [Nat.mul_one]; exact List.take_of_length_le (by simp)⟩⟩
  refine ⟨ao, cp, rfl, hp', (sameInts_any _ _ _ _ _ _ hk2 hkl).mono ?_⟩
  rintro _ w2 ⟨rfl, hb2⟩
  exact ⟨rfl, hP _ _ (hP _ _ hp' hba) hb2⟩
end Go.Proofs.Ytlfkdohajfkhdaa
