/-
  Contracts over this program: where a key stands in a chain; which bucket a hash has.
-/
import Derived.Test.YtapehjlpiobeaaaDictMem
import Derived.Deep.LoopGhost
import Derived.Shelf.Abstract
namespace Go.Proofs.Ytapehjlpiobeaaa
open Go.RowKit Go.Shelf
/-- r is the place of a key in a chain's slice, or -1 -/
def Found (c : List Ent) (key : ByteArray) (r : Int) : Prop :=
  (r = -1 ∧ ∀ e ∈ c, e.1 ≠ key) ∨ ∃ (p : Nat) (x : Nat), r = p ∧ p < c.length ∧ c.reverse[p]? = some (key, x)
theorem enC_at {c : List Ent} {p : Nat} {e : Ent} (h : c.reverse[p]? = some e) : (enC c)[p * 2]? = some (.string e.1) ∧ (enC c)[p * 2 + 1]? = some (.float .f64 e.2) := by
  unfold enC
  generalize c.reverse = l at h
  induction l generalizing p with
  | nil => simp at h
  | cons a l ih =>
    rw [List.flatMap_cons]
    cases p with
    | zero => simp at h; subst h; simp [enE]
    | succ p =>
      have := ih (p := p) (by simpa using h)
      rw [List.getElem?_append_right (by simp [enE]; omega), List.getElem?_append_right (by simp [enE]; omega)]
      have e1 : (p + 1) * 2 - (enE a).length = p * 2 := by simp [enE]; omega
      have e2 : (p + 1) * 2 + 1 - (enE a).length = p * 2 + 1 := by simp [enE]; omega
      rw [e1, e2]
      exact this
theorem Chn.at {w : World} {g n cap p : Nat} {c : List Ent} {e : Ent} (h : Chn w (.slice (some ⟨g, 0, none⟩) n cap) c) (hp : c.reverse[p]? = some e) :
    w.cell? ⟨g, p * 2, none⟩ = some (.string e.1) ∧ w.cell? ⟨g, p * 2 + 1, none⟩ = some (.float .f64 e.2) := by
  have add : ∀ i, (⟨g, 0, none⟩ : Addr).add i = ⟨g, i, none⟩ := by intro i; unfold Addr.add; split <;> simp_all
  have h1 := h.cells (g := g) rfl _ _ (enC_at hp).1
  have h2 := h.cells (g := g) rfl _ _ (enC_at hp).2
  rw [add] at h1 h2
  exact ⟨h1, h2⟩
set_option maxHeartbeats 400000 in
/-- the test on an entry: is its key the one that is sought? -/
theorem test_any (w : World) (B : Nat) (key : ByteArray) (e : Ent) (hc : w.cell? ⟨B, 0, none⟩ = some (.string key)) :
    Calls Try.prog 80 #[.agg #[.string e.1, .float .f64 e.2], .pointer (some ⟨B, 0, none⟩)] w fun r w' => r = .returned (.bool (e.1.toList == key.toList)) ∧ w' = w.alloc (.cells #[.string e.1, .float .f64 e.2] 91) := by
  have hlt := World.block_lt_of_cell? w _ hc
  have hne : ¬ B = w.heap.size := by simp at hlt; omega
  go_enter Try.func80, Try.ntmps80
  go_wp2
  go_ret
  exact ⟨rfl, rfl⟩
theorem Chn.form {w : World} {v : Value} {c : List Ent} (h : Chn w v c) : (v = .slice none 0 0 ∧ c = []) ∨ ∃ g cap, v = .slice (some ⟨g, 0, none⟩) c.length cap ∧ g < w.heap.size ∧ c.length ≤ cap ∧ cap ≤ maxLen := by
  rcases h.2 with ⟨rfl, h0⟩ | ⟨g, cap, cur, rfl, _, hg, h1, h2, _⟩
  · exact .inl ⟨rfl, List.length_eq_zero_iff.1 h0⟩
  · exact .inr ⟨g, cap, rfl, (Array.getElem?_eq_some_iff.1 hg).1, h1, h2⟩
theorem rev_some {c : List Ent} {k : Nat} (h : k < c.length) : ∃ e, c.reverse[k]? = some e := ⟨c.reverse[k]'(by simpa using h), List.getElem?_eq_getElem (by simpa using h)⟩
theorem bytes_eq {a b : ByteArray} (h : a.toList = b.toList) : a = b := by
  have h' : a.data.toList = b.data.toList := by rwa [ByteArray.toList_eq, ByteArray.toList_eq] at h
  cases a; cases b; congr 1
  exact Array.toList_inj.1 h'
theorem key_no {c : List Ent} {key : ByteArray} (h : ∀ j e, j < c.length → c.reverse[j]? = some e → (e.1.toList == key.toList) = false) : ∀ e ∈ c, e.1 ≠ key := by
  intro e he hk
  obtain ⟨j, hj⟩ := List.getElem?_of_mem (List.mem_reverse.2 he)
  have hl : j < c.length := by have := (List.getElem?_eq_some_iff.1 hj).1; simpa using this
  have := h j e hl hj
  rw [hk] at this
  simp at this
set_option maxHeartbeats 1000000 in
theorem index_any (w : World) (v : Value) (c : List Ent) (key : ByteArray) (B : Nat) (hc : w.cell? ⟨B, 0, none⟩ = some (.string key)) (h : Chn w v c) :
    Calls Try.prog 79 #[v, .func (.func 80) #[] #[.pointer (some ⟨B, 0, none⟩)]] w fun e w' => (∃ r : Int, e = .returned (.int .i64 r) ∧ Found c key r) ∧ Below w.heap.size w w' := by
  have eg : ∀ args w, (callFunc 80 args).run Try.prog w = .ok (.enter 80 args) w := enters_of Try.func80 (by kernel_rfl) rfl
  have hB := World.block_lt_of_cell? w _ hc
  rcases h.form with ⟨rfl, rfl⟩ | ⟨g, cap, rfl, hg, hcap, hm⟩
  · go_enter Try.func79, Try.ntmps79
    go_wp2
    go_loopg [5, 8] 0 (fun gg _ s8 wr => s8 = .int .i64 0 ∧ wr = w)
    case atStart => exact ⟨rfl, rfl⟩
    case round =>
      obtain ⟨rfl, rfl⟩ := hrel
      go_wp2
      go_ret
      exact ⟨⟨-1, rfl, .inl ⟨rfl, by simp⟩⟩, Below.refl _ _⟩
  · have hrow : Kept (∀ (W : World), Below w.heap.size w W → ∀ j e, c.reverse[j]? = some e → W.cell? ⟨g, j * 2, none⟩ = some (.string e.1) ∧ W.cell? ⟨g, j * 2 + 1, none⟩ = some (.float .f64 e.2)) := fun W hW j e he => by
      obtain ⟨a, b⟩ := h.at he
      exact ⟨(hW.cell (p := ⟨g, j * 2, none⟩) hg).trans a, (hW.cell (p := ⟨g, j * 2 + 1, none⟩) hg).trans b⟩
    have HC := keep hc
    clear h hc
    obtain ⟨n, hn⟩ : ∃ n, c.length = n := ⟨_, rfl⟩
    rw [hn] at hcap ⊢
    have HN := keep hn
    clear hn
    unfold maxLen at hm
    go_enter Try.func79, Try.ntmps79
    go_wp2
    go_loopg [5, 8] n (fun gg _ s8 wr => ∃ kk : Nat, kk ≤ n ∧ n - kk ≤ gg ∧ s8 = .int .i64 kk ∧ Kept (Below w.heap.size w wr) ∧ Kept (∀ j e, j < kk → c.reverse[j]? = some e → (e.1.toList == key.toList) = false))
    case atStart => exact ⟨0, Nat.zero_le _, by omega, rfl, Below.refl _ w, fun j e hj => absurd hj (Nat.not_lt_zero _)⟩
    case round =>
      obtain ⟨kk, hkk, hg2, rfl, BW, A⟩ := hrel
      by_cases hlt : kk < n
      · have hltz : (kk : Int) < (n : Int) := by omega
        obtain ⟨e, he⟩ := rev_some (c := c) (k := kk) (by rw [HN.out]; exact hlt)
        obtain ⟨l1, l2⟩ := hrow.out wr BW.out kk e he
        have HE := keep he
        have hcall := test_any wr B key e ((BW.out.cell (p := ⟨B, 0, none⟩) hB).trans HC.out)
        clear he
        obtain ⟨e1, e2⟩ := e
        have l1 : wr.cell? ⟨g, kk * 2, none⟩ = some (.string e1) := l1
        have l2 : wr.cell? ⟨g, kk * 2 + 1, none⟩ = some (.float .f64 e2) := l2
        dsimp only at hcall
        cases hq : (e1.toList == key.toList) with
        | true =>
          rw [hq] at hcall
          have HQ := keep hq
          clear hq
          go_wp2_with fail
          refine hcall.mono ?_
          rintro r w' ⟨rfl, rfl⟩
          go_wp2
          go_ret
          refine ⟨⟨kk, rfl, .inr ⟨kk, e2, rfl, by rw [HN.out]; exact hlt, ?_⟩⟩, BW.out.alloc BW.out.size _⟩
          have hk := bytes_eq (a := e1) (b := key) (by simpa using HQ.out)
          rw [HE.out, hk]
        | false =>
          rw [hq] at hcall
          have HQ := keep hq
          clear hq
          go_wp2_with fail
          refine hcall.mono ?_
          rintro r w' ⟨rfl, rfl⟩
          go_wp2
          go_roundg (n - (kk + 1))
          case measure => omega
          case rel =>
            refine ⟨kk + 1, by omega, by omega, by go_num, BW.out.alloc BW.out.size _, (show Kept _ from fun j e' hj he' => ?_)⟩
            by_cases e : j = kk
            · subst e
              rw [HE.out] at he'
              cases he'
              exact HQ.out
            · exact A.out j e' (by omega) he'
      · have hltz : ¬ (kk : Int) < (n : Int) := by omega
        have : kk = n := by omega
        subst this
        go_wp2
        go_ret
        exact ⟨⟨-1, rfl, .inl ⟨rfl, key_no (fun j e hj he => A.out j e (by rw [← HN.out]; exact hj) he)⟩⟩, BW.out⟩
set_option maxHeartbeats 400000 in
theorem cfind_any (w : World) (v : Value) (c : List Ent) (key : ByteArray) (h : Chn w v c) :
    Calls Try.prog 70 #[v, .string key] w fun e w' => (∃ r : Int, e = .returned (.int .i64 r) ∧ Found c key r) ∧ Below w.heap.size w w' := by
  have mI := index_any (w.alloc (.cells #[.string key] 9)) v c key w.heap.size (by simp) (h.alloc _)
  have hmf : ∀ (fn : Fn) (first cap : Array Value) (w : World), (Instr.makeFunc fn first cap).run Try.prog w = .ok (.func fn first cap) w := fun _ _ _ _ => rfl
  clear h
  go_enter Try.func70, Try.ntmps70
  go_wp2_with fail
  refine mI.mono ?_
  rintro e w' ⟨⟨r, rfl, hf⟩, hb⟩
  go_wp2
  go_ret
  exact ⟨⟨r, rfl, hf⟩, ((Below.refl _ w).alloc (Nat.le_refl _) _).trans (hb.mono (by simp))⟩
set_option maxHeartbeats 400000 in
theorem of_any (w : World) (ao : Option Addr) (n cap x : Nat) (hn : 0 < n) (hm : n ≤ maxLen) (hx : x < Dw.M) :
    Calls Try.prog 69 #[.slice ao n cap, .int .u64 x] w fun e w' => e = .returned (.int .i64 (x % n : Nat)) ∧ w' = w := by
  unfold maxLen at hm
  have hx' := Dw.le_of hx
  have h1 : IntKind.u64.wrap (n : Int) = (n : Int) := by rw [IntKind.wrap_u64]; omega
  have h2 : ((n : Int) == 0) = false := beq_eq_false_iff_ne.2 (by omega)
  have h2' : 1 ≤ (n : Int) := by omega
  have h3 : x % n < n := Nat.mod_lt _ hn
  clear hx
  go_enter Try.func69, Try.ntmps69
  go_wp2
  go_ret
  exact ⟨ret_u (by simp), rfl⟩
end Go.Proofs.Ytapehjlpiobeaaa
