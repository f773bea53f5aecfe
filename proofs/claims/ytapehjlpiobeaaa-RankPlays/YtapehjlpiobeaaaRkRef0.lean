/-
  What the program's memory holds of the document's own ranks; contracts: New, ahead, Len, at of it.
-/
import Derived.Test.YtapehjlpiobeaaaRkDone
import Derived.Laws.OwnMore
namespace Go.Proofs.Ytapehjlpiobeaaa
open Go.RowKit Go.Shelf
set_option linter.unusedVariables false
set_option linter.unusedSimpArgs false
set_option maxRecDepth 100000
/-- a plain row of members -/
def Rn (w : World) (v : Value) (M : List Ent) : Prop := w.ownsRow 0 46 2 v M.length (enR M)
theorem Rn.kept {w w' : World} {v : Value} {M : List Ent} (h : Rn w v M) (hk : ∀ k, v.ownBlock = some k → w'.heap[k]? = w.heap[k]?) : Rn w' v M := own_kept h hk
theorem Rn.form {w : World} {v : Value} {M : List Ent} (h : Rn w v M) : ∃ o c, v = .slice o M.length c ∧ (0 < M.length → ∃ g, o = some ⟨g, 0, none⟩) := by
  rcases h.2 with ⟨e, h0⟩ | ⟨g', c', cur', e, _⟩
  · exact ⟨none, 0, by rw [e, h0], fun hh => by omega⟩
  · exact ⟨_, _, e, fun _ => ⟨_, rfl⟩⟩
theorem Rn.at {w : World} {g n c : Nat} {M : List Ent} {j : Nat} {e : Ent} (h : Rn w (.slice (some ⟨g, 0, none⟩) n c) M) (hj : M[j]? = some e) : w.cell? ⟨g, j * 2, none⟩ = some (.string e.1) ∧ w.cell? ⟨g, j * 2 + 1, none⟩ = some (.float .f64 e.2) := by
  obtain ⟨h1, h2⟩ := enR_at hj
  have c1 := World.ownsRow.cells h (g := g) rfl _ _ h1
  have c2 := World.ownsRow.cells h (g := g) rfl _ _ h2
  rw [add_at, Nat.zero_add] at c1 c2
  exact ⟨c1, c2⟩
/-- the document's own ranks: their block, their row, what they hold -/
def Rp (w : World) (b : Nat) (v : Value) (M : List Ent) : Prop :=
  w.heap[b]? = some (.cells #[v] 65 (0, 0)) ∧ Rn w v M ∧ v.ownBlock ≠ some b
def rbl (b : Nat) (v : Value) : List Nat := b :: v.ownBlock.toList
theorem Rp.lt {w : World} {b : Nat} {v : Value} {M : List Ent} (h : Rp w b v M) : ∀ k ∈ rbl b v, k < w.heap.size := by
  intro k hk
  rcases List.mem_cons.1 hk with rfl | hk
  · exact (Array.getElem?_eq_some_iff.1 h.1).1
  · exact own_lt h.2.1 (by simpa using hk)
theorem Rp.kept {w w' : World} {b : Nat} {v : Value} {M : List Ent} (h : Rp w b v M) (hk : ∀ k ∈ rbl b v, w'.heap[k]? = w.heap[k]?) : Rp w' b v M :=
  ⟨(hk b (by simp [rbl])).trans h.1, h.2.1.kept (fun k e => hk k (by simp [rbl, e])), h.2.2⟩
theorem Rp.bel {w w' : World} {b : Nat} {v : Value} {M : List Ent} (h : Rp w b v M) (hb : Below w.heap.size w w') : Rp w' b v M := h.kept (fun k hk => hb.block k (h.lt k hk))
theorem Rp.cells {w : World} {b : Nat} {v : Value} {M : List Ent} (h : Rp w b v M) : w.cell? ⟨b, 0, none⟩ = some v ∧ ∀ i, w.frozen? ⟨b, i, none⟩ = false := by
  refine ⟨?_, fun i => ?_⟩
  · simp [World.cell?, h.1]
  · simp [World.frozen?, h.1]
/-- a call of the document's own ranks has answered r, and left M' -/
def Rid (w : World) (b : Nat) (v : Value) (M' : List Ent) (r : Value) (e : Ending) (w' : World) : Prop :=
  e = .returned r ∧ ∃ v', Rp w' b v' M' ∧ Fm (rbl b v) w (rbl b v') w'
set_option maxHeartbeats 1000000 in
theorem rahead_any (a b : Ent) (w : World) : Calls Try.prog 56 #[agE a, agE b] w fun e w' => e = .returned (.bool (ahd a b)) ∧ Below w.heap.size w w' := by
  have sf : ∀ (x : Nat) (w : World) (a : Addr), (store a (.float .f64 x)).run Try.prog w = stored Try.prog w a (.float .f64 x) .plain := fun x w a => run_store _ w a _ _ rfl
  obtain ⟨a1, a2⟩ := a
  obtain ⟨b1, b2⟩ := b
  have hb : ∀ (w : World) (o p : Obj), Below w.heap.size w ((w.alloc o).alloc p) := fun w o p => ((Below.refl _ w).alloc (Nat.le_refl _) _).alloc (by simp) _
  have HB := keep hb
  clear hb
  unfold agE ahd tls flt feq
  dsimp only
  obtain ⟨o, ho⟩ : ∃ o, Ieee.double.order a2 b2 = o := ⟨_, rfl⟩
  rw [ho]
  have ho' : FloatKind.f64.format.order a2 b2 = o := ho
  clear ho
  rcases o with _ | (_ | _ | _)
  all_goals
    go_enter Try.func56, Try.ntmps56
    go_wp2
    all_goals
      go_ret
      exact ⟨by simp, HB.out _ _ _⟩
set_option maxHeartbeats 1000000 in
theorem rnew_any (w : World) (s : Int) :
    Calls Try.prog 7 #[.int .u64 s] w fun e w' => e = .returned (.pointer (some ⟨w.heap.size, 0, none⟩)) ∧ Rp w' w.heap.size (.slice none 0 0) [] ∧ Below w.heap.size w w' := by
  have hp : Rp (w.alloc (.cells #[.slice none 0 0] 65)) w.heap.size (.slice none 0 0) [] ∧ Below w.heap.size w (w.alloc (.cells #[.slice none 0 0] 65)) :=
    ⟨⟨heap_alloc_new _ _, ⟨rfl, .inl ⟨rfl, rfl⟩⟩, fun e => by cases e⟩, (Below.refl _ w).alloc (Nat.le_refl _) _⟩
  have HP := keep hp
  clear hp
  go_enter Try.func7, Try.ntmps7
  go_wp2
  first | exact ⟨rfl, HP.out⟩ | (go_ret; exact ⟨rfl, HP.out⟩)
set_option maxHeartbeats 1000000 in
theorem rlen_any (w : World) (b : Nat) (v : Value) (M : List Ent) (h : Rp w b v M) :
    Calls Try.prog 34 #[.pointer (some ⟨b, 0, none⟩)] w fun e w' => e = .returned (.int .i64 (M.length : Int)) ∧ w' = w := by
  obtain ⟨k0, _⟩ := h.cells
  obtain ⟨o, c, rfl, _⟩ := h.2.1.form
  clear h
  generalize M.length = n at *
  go_enter Try.func34, Try.ntmps34
  go_wp2
  first | exact ⟨rfl, rfl⟩ | (go_ret; exact ⟨rfl, rfl⟩)
/-- what at answers -/
def Ridx (w : World) (M : List Ent) (key : ByteArray) (e : Ending) (w' : World) : Prop := (∃ r, e = .returned (.int .i64 r) ∧ AtM M key r) ∧ Below w.heap.size w w'
set_option maxHeartbeats 4000000 in
theorem rat_any (w : World) (b : Nat) (v : Value) (M : List Ent) (key : ByteArray) (h : Rp w b v M) (hn : M.length ≤ 2000000) :
    Calls Try.prog 50 #[.pointer (some ⟨b, 0, none⟩), .string key] w fun e w' => Ridx w M key e w' := by
  have sf : ∀ (x : Nat) (w : World) (a : Addr), (store a (.float .f64 x)).run Try.prog w = stored Try.prog w a (.float .f64 x) .plain := fun x w a => run_store _ w a _ _ rfl
  have HQ : Kept (∀ (r : Int) w', AtM M key r → Below w.heap.size w w' → Ridx w M key (.returned (.int .i64 r)) w') := fun r w' h1 h2 => ⟨⟨r, rfl, h1⟩, h2⟩
  obtain ⟨k0, _⟩ := h.cells
  have HR := keep h
  obtain ⟨o, cp, rfl, hao⟩ := h.2.1.form
  obtain ⟨n, hln⟩ : ∃ n, M.length = n := ⟨_, rfl⟩
  have HL := keep hln
  rw [hln] at k0 hao hn HR
  have HAO := keep hao
  have HN := keep hn
  generalize Ridx w M key = Q at *
  clear h hln hao hn
  go_enter Try.func50, Try.ntmps50
  go_wp2
  go_loopg [14] n (fun kx s8 wr => ∃ i : Nat, s8 = .int .i64 i ∧ i ≤ n ∧ n - i ≤ kx ∧ Kept (Below w.heap.size w wr) ∧ Kept (∀ t x, t < i → M[t]? = some x → x.1 ≠ key))
  case atStart => exact ⟨0, rfl, Nat.zero_le _, by omega, Below.refl _ _, fun t x ht => absurd ht (Nat.not_lt_zero _)⟩
  case round =>
    obtain ⟨i, rfl, hin, hg, BW, I⟩ := hrel
    by_cases hlt : i < n
    · obtain ⟨x, hx⟩ : ∃ x, M[i]? = some x := ⟨_, List.getElem?_eq_getElem (by have := HL.out; omega)⟩
      obtain ⟨g, hg'⟩ := HAO.out (by omega)
      subst hg'
      obtain ⟨oM, hoM⟩ : ∃ o, o = i * 2 := ⟨_, rfl⟩
      obtain ⟨e0, e1⟩ := (HR.out.bel BW.out).2.1.at hx
      rw [← hoM] at e0 e1
      have hoM' : i * 2 = oM := hoM.symm
      have i0 : (0 : Int) ≤ (i : Int) := by omega
      have i1 : (i : Int) < (n : Int) := by omega
      obtain ⟨x1, x2⟩ := x
      dsimp only at e0 e1
      obtain ⟨D, hD⟩ : ∃ D, wr.heap.size = D := ⟨_, rfl⟩
      obtain ⟨W7, hW7⟩ : ∃ W7, wr.alloc (.cells #[.string x1, .float .f64 x2] 46) = W7 := ⟨_, rfl⟩
      have hb7 : Below wr.heap.size wr W7 := by rw [← hW7]; exact (Below.refl _ wr).alloc (Nat.le_refl _) _
      have f0 : W7.cell? ⟨D, 0, none⟩ = some (.string x1) := by rw [← hW7, ← hD]; simp
      have B7 := keep (Below.up BW.out hb7)
      have HX := keep hx
      have hwi : IntKind.i64.wrap ((i : Int) + 1) = (i : Int) + 1 := by have := HN.out; rw [IntKind.wrap_i64]; omega
      clear hx hoM hb7
      cases hq : (x1.toList == key.toList)
      · have I' : Kept (∀ t x, t < i + 1 → M[t]? = some x → x.1 ≠ key) := fun t x ht hx e => by
          rcases Nat.lt_or_ge t i with h' | h'
          · exact I.out t x h' hx e
          · obtain rfl : t = i := by omega
            rw [HX.out] at hx
            cases hx
            dsimp only at e
            rw [e] at hq
            simp at hq
        go_wp2
        go_roundg (n - (i + 1))
        case measure => omega
        case rel => exact ⟨i + 1, by simp, by omega, Nat.le_refl _, B7.out, I'.out⟩
      · have hk1 : x1 = key := tl_inj (beq_iff_eq.1 hq)
        have HF : Kept (AtM M key (i : Int)) := .inr ⟨i, x2, rfl, by rw [HX.out, hk1]⟩
        clear hk1
        go_wp2
        first | exact HQ.out _ _ HF.out B7.out | (go_ret; exact HQ.out _ _ HF.out B7.out)
    · obtain rfl : i = n := by omega
      have HF : Kept (AtM M key (-1)) := .inl ⟨rfl, fun e he => by
        obtain ⟨t, ht⟩ := List.mem_iff_getElem?.1 he
        exact I.out t e (by have := (List.getElem?_eq_some_iff.1 ht).1; have := HL.out; omega) ht⟩
      go_wp2
      first | exact HQ.out _ _ HF.out BW.out | (go_ret; exact HQ.out _ _ HF.out BW.out)
end Go.Proofs.Ytapehjlpiobeaaa
