/-
  What the program's memory holds of the document's own pool; contracts: New, Clear, at, Sooner of it; a row whose one element is written.
-/
import Derived.Test.YtgniiojeeobffaaPlRise0
import Derived.Laws.OwnMore
namespace Go.Proofs.Ytgniiojeeobffaa
open Go.RowKit Go.Shelf
set_option linter.unusedVariables false
set_option linter.unusedSimpArgs false
set_option maxRecDepth 100000
/-- the document's own pool: its block, its row, how many it may hold, what it holds -/
def Rp (w : World) (b : Nat) (v : Value) (m : Nat) (l : List Ent) : Prop :=
  w.heap[b]? = some (.cells #[.int .i64 (m : Int), v] 53 (0, 0)) ∧ Row w v l ∧ v.ownBlock ≠ some b
theorem Rp.lt {w : World} {b : Nat} {v : Value} {m : Nat} {l : List Ent} (h : Rp w b v m l) : ∀ k ∈ bl b v, k < w.heap.size := by
  intro k hk
  rcases List.mem_cons.1 hk with rfl | hk
  · exact (Array.getElem?_eq_some_iff.1 h.1).1
  · exact h.2.1.lt (by simpa using hk)
theorem Rp.kept {w w' : World} {b : Nat} {v : Value} {m : Nat} {l : List Ent} (h : Rp w b v m l) (hk : ∀ k ∈ bl b v, w'.heap[k]? = w.heap[k]?) : Rp w' b v m l :=
  ⟨(hk b (by simp [bl])).trans h.1, h.2.1.kept (fun k e => hk k (by simp [bl, e])), h.2.2⟩
theorem Rp.bel {w w' : World} {b : Nat} {v : Value} {m : Nat} {l : List Ent} (h : Rp w b v m l) (hb : Below w.heap.size w w') : Rp w' b v m l := h.kept (fun k hk => hb.block k (h.lt k hk))
theorem Rp.cells {w : World} {b : Nat} {v : Value} {m : Nat} {l : List Ent} (h : Rp w b v m l) : w.cell? ⟨b, 0, none⟩ = some (.int .i64 (m : Int)) ∧ w.cell? ⟨b, 1, none⟩ = some v ∧ ∀ i, w.frozen? ⟨b, i, none⟩ = false := cells_two h.1
/-- a call of the document's own pool has answered r, and left l' -/
def Rid (w : World) (b m : Nat) (v : Value) (l' : List Ent) (r : Value) (e : Ending) (w' : World) : Prop :=
  e = .returned r ∧ ∃ v', Rp w' b v' m l' ∧ Fm (bl b v) w (bl b v') w'
set_option maxHeartbeats 1000000 in
theorem rsooner_any (a b : Ent) (w : World) : Calls Try.prog 33 #[agE a, agE b] w fun e w' => e = .returned (.bool (snr a b)) ∧ Below w.heap.size w w' := by
  obtain ⟨a1, a2⟩ := a
  obtain ⟨b1, b2⟩ := b
  have hb : ∀ (w : World) (o p : Obj), Below w.heap.size w ((w.alloc o).alloc p) := fun w o p => ((Below.refl _ w).alloc (Nat.le_refl _) _).alloc (by simp) _
  have HB := keep hb
  clear hb
  unfold agE
  dsimp only
  by_cases h1 : a2 < b2
  · have hs : snr (a1, a2) (b1, b2) = true := by simp [snr, h1]
    rw [hs]
    clear hs
    go_enter Try.func33, Try.ntmps33
    go_wp2
    go_ret
    exact ⟨by simp, HB.out _ _ _⟩
  · by_cases h2 : a2 = b2
    · subst h2
      obtain ⟨r, hr⟩ : ∃ r, Op.bytesLess a1.toList b1.toList = r := ⟨_, rfl⟩
      have hs : snr (a1, a2) (b1, a2) = r := by simp [snr, tls, hr]
      rw [hs]
      clear hs h1
      go_enter Try.func33, Try.ntmps33
      go_wp2
      go_ret
      exact ⟨by simp, HB.out _ _ _⟩
    · have hs : snr (a1, a2) (b1, b2) = false := by simp [snr, h1, h2]
      rw [hs]
      clear hs
      go_enter Try.func33, Try.ntmps33
      go_wp2
      go_ret
      exact ⟨by simp, HB.out _ _ _⟩
set_option maxHeartbeats 1000000 in
theorem rnew_ok (w : World) (m : Nat) (h1 : 1 ≤ m) (h2 : m ≤ 16) :
    Calls Try.prog 9 #[.int .i64 (m : Int)] w fun e w' => e = .returned (.tuple #[.pointer (some ⟨w.heap.size, 0, none⟩), .int .i64 0]) ∧ Rp w' w.heap.size (.slice none 0 0) m [] ∧ Below w.heap.size w w' := by
  have a1 : decide ((m : Int) < 1) = false := decide_eq_false (by omega)
  have a2 : decide ((16 : Int) < (m : Int)) = false := decide_eq_false (by omega)
  have a3 : ¬ (m : Int) < 1 := by omega
  have a4 : ¬ (16 : Int) < (m : Int) := by omega
  have a5 : ¬ 16 < m := by omega
  have a6 : ¬ m < 1 := by omega
  have a7 : ¬ m = 0 := by omega
  have hp : Rp (w.alloc (.cells #[.int .i64 (m : Int), .slice none 0 0] 53)) w.heap.size (.slice none 0 0) m [] ∧ Below w.heap.size w (w.alloc (.cells #[.int .i64 (m : Int), .slice none 0 0] 53)) :=
    ⟨⟨heap_alloc_new _ _, ⟨rfl, .inl ⟨rfl, rfl⟩⟩, fun e => by cases e⟩, (Below.refl _ w).alloc (Nat.le_refl _) _⟩
  have HP := keep hp
  clear hp h1 h2
  go_enter Try.func9, Try.ntmps9
  go_wp2
  refine bodyPost_ret (results_tmp2 rfl _ _ _) rfl ?_
  exact ⟨rfl, HP.out⟩
set_option maxHeartbeats 1000000 in
theorem rnew_no (w : World) (m : Int) (h : m < 1 ∨ 16 < m) :
    Calls Try.prog 9 #[.int .i64 m] w fun e w' => e = .returned (.tuple #[.pointer none, .int .i64 3]) ∧ w' = w := by
  by_cases h1 : m < 1
  · have a1 : decide (m < 1) = true := decide_eq_true h1
    go_enter Try.func9, Try.ntmps9
    go_wp2
    refine bodyPost_ret (results_tmp2 rfl _ _ _) rfl ?_
    exact ⟨rfl, rfl⟩
  · have h2 : 16 < m := by omega
    have a1 : decide (m < 1) = false := decide_eq_false h1
    have a2 : decide (16 < m) = true := decide_eq_true h2
    clear h
    go_enter Try.func9, Try.ntmps9
    go_wp2
    refine bodyPost_ret (results_tmp2 rfl _ _ _) rfl ?_
    exact ⟨rfl, rfl⟩
set_option maxHeartbeats 1000000 in
theorem rclear_any (w : World) (b m : Nat) (v : Value) (l : List Ent) (h : Rp w b v m l) :
    Calls Try.prog 24 #[.pointer (some ⟨b, 0, none⟩)] w fun e w' => Rid w b m v [] (.tuple #[]) e w' := by
  obtain ⟨k0, k1, k2⟩ := h.cells
  have HD : Kept (Rid w b m v [] (.tuple #[]) (.returned (.tuple #[])) (w.setCell ⟨b, 1, none⟩ (.slice none 0 0))) := by
    refine ⟨rfl, .slice none 0 0, ⟨cells_set h.1, ⟨rfl, .inl ⟨rfl, rfl⟩⟩, fun e => by cases e⟩, ⟨⟨rfl, rfl, rfl⟩, by simp [World.setCell], fun k hk hnm => ⟨Below.heap_setCell _ _ _ _ (fun e => hnm (by rw [show k = b from e]; simp [bl])), fun hk' => ?_⟩⟩⟩
    rcases List.mem_cons.1 hk' with e | e
    · exact hnm (by rw [e]; simp [bl])
    · cases e
  generalize Rid w b m v [] (.tuple #[]) = Q at *
  obtain ⟨ao, n, c, rfl⟩ := h.2.1.slice
  clear h
  go_enter Try.func24, Try.ntmps24
  go_wp2
  first | exact HD.out | (go_ret; exact HD.out) | (go_end0; exact HD.out)
theorem Row.shape {w : World} {u : Value} {l : List Ent} (h : Row w u l) : ∃ ao n c, u = .slice ao n c ∧ l.length = n ∧ (0 < n → ∃ g, ao = some ⟨g, 0, none⟩) := by
  rcases h.form with ⟨rfl, rfl⟩ | ⟨g, c, rfl, _⟩
  · exact ⟨_, _, _, rfl, rfl, fun h => by omega⟩
  · exact ⟨_, _, _, rfl, rfl, fun _ => ⟨g, rfl⟩⟩
theorem Row.two {w : World} {g n c : Nat} {l : List Ent} (h : Row w (.slice (some ⟨g, 0, none⟩) n c) l) (hn : l.length = n) {j : Nat} {x : Ent} (hj : l[j]? = some x) : w.cell? ⟨g, j * 2, none⟩ = some (.string x.1) ∧ w.cell? ⟨g, j * 2 + 1, none⟩ = some (.int .u64 x.2) := by
  unfold Row at h
  rw [hn] at h
  exact cel_of h j x hj
set_option maxHeartbeats 4000000 in
theorem at_any (w : World) (b m : Nat) (v : Value) (l : List Ent) (key : ByteArray) (h : Rp w b v m l) (hn : l.length ≤ 2000000) :
    Calls Try.prog 32 #[.pointer (some ⟨b, 0, none⟩), .string key] w fun e w' => Idx w l key e w' := by
  have HQ : Kept (∀ (r : Int) w', Fnd l key r → Below w.heap.size w w' → Idx w l key (.returned (.int .i64 r)) w') := fun r w' h1 h2 => ⟨⟨r, rfl, h1⟩, h2⟩
  obtain ⟨k0, k1, _⟩ := h.cells
  obtain ⟨ao, n, cp, rfl, hln, hao⟩ := h.2.1.shape
  have HR := keep h.2.1
  have HL := keep hln
  have HAO := keep hao
  have HN : Kept (n ≤ 2000000) := by rw [← hln]; exact hn
  generalize Idx w l key = Q at *
  clear h hln hao hn
  go_enter Try.func32, Try.ntmps32
  go_wp2
  go_loopg [12] n (fun kx s8 wr => ∃ i : Nat, s8 = .int .i64 i ∧ i ≤ n ∧ n - i ≤ kx ∧ Kept (Below w.heap.size w wr) ∧ Kept (∀ t x, t < i → l[t]? = some x → x.1 ≠ key))
  case atStart => exact ⟨0, rfl, Nat.zero_le _, by omega, Below.refl _ _, fun t x ht => absurd ht (Nat.not_lt_zero _)⟩
  case round =>
    obtain ⟨i, rfl, hin, hg, BW, I⟩ := hrel
    by_cases hlt : i < n
    · obtain ⟨x, hx⟩ : ∃ x, l[i]? = some x := ⟨_, List.getElem?_eq_getElem (by have := HL.out; omega)⟩
      obtain ⟨g, hg'⟩ := HAO.out (by omega)
      subst hg'
      obtain ⟨oM, hoM⟩ : ∃ o, o = i * 2 := ⟨_, rfl⟩
      obtain ⟨e0, e1⟩ := (HR.out.bel BW.out).two HL.out hx
      rw [← hoM] at e0 e1
      have hoM' : i * 2 = oM := hoM.symm
      have i0 : (0 : Int) ≤ (i : Int) := by omega
      have i1 : (i : Int) < (n : Int) := by omega
      obtain ⟨x1, x2⟩ := x
      dsimp only at e0 e1
      obtain ⟨D, hD⟩ : ∃ D, wr.heap.size = D := ⟨_, rfl⟩
      obtain ⟨W7, hW7⟩ : ∃ W7, wr.alloc (.cells #[.string x1, .int .u64 x2] 32) = W7 := ⟨_, rfl⟩
      have hb7 : Below wr.heap.size wr W7 := by rw [← hW7]; exact (Below.refl _ wr).alloc (Nat.le_refl _) _
      have gD : W7.heap[D]? = some (.cells #[.string x1, .int .u64 x2] 32 (0, 0)) := by rw [← hW7, ← hD]; exact heap_alloc_new _ _
      obtain ⟨f0, f1, _⟩ := cells_two gD
      have B7 := keep (Below.up BW.out hb7)
      have HX := keep hx
      have hwi : IntKind.i64.wrap ((i : Int) + 1) = (i : Int) + 1 := by have := HN.out; rw [IntKind.wrap_i64]; omega
      clear hx hoM hb7 gD
      cases hq : (x1.toList == key.toList)
      · have I' : Kept (∀ t x, t < i + 1 → l[t]? = some x → x.1 ≠ key) := fun t x ht hx e => by
          rcases Nat.lt_or_ge t i with h' | h'
          · exact I.out t x h' hx e
          · obtain rfl : t = i := by omega
            rw [HX.out] at hx
            cases hx
            dsimp only at e
            rw [e] at hq
            simp at hq
        go_wp2
        go_roundg (n - (i + 1))
        case measure => omega
        case rel => exact ⟨i + 1, by simp, by omega, Nat.le_refl _, B7.out, I'.out⟩
      · have hk1 : x1 = key := tl_inj (beq_iff_eq.1 hq)
        have HF : Kept (Fnd l key (i : Int)) := .inr ⟨i, x2, rfl, by rw [HX.out, hk1]⟩
        clear hk1
        go_wp2
        first | exact HQ.out _ _ HF.out B7.out | (go_ret; exact HQ.out _ _ HF.out B7.out)
    · obtain rfl : i = n := by omega
      have HF : Kept (Fnd l key (-1)) := .inl ⟨rfl, fun e he => by
        obtain ⟨t, ht⟩ := List.mem_iff_getElem?.1 he
        exact I.out t e (by have := (List.getElem?_eq_some_iff.1 ht).1; have := HL.out; omega) ht⟩
      go_wp2
      first | exact HQ.out _ _ HF.out BW.out | (go_ret; exact HQ.out _ _ HF.out BW.out)
/-- one element of a row is written -/
theorem enR_set : ∀ (l : List Ent) (k : Nat) (c : Ent), enR (l.set k c) = ((enR l).set (k * 2) (.string c.1)).set (k * 2 + 1) (.int .u64 c.2)
  | [], k, c => by simp [enR]
  | d :: l, 0, c => rfl
  | d :: l, k + 1, c => by
    have e1 : ∀ m : List Ent, enR (d :: m) = .string d.1 :: .int .u64 d.2 :: enR m := fun m => rfl
    rw [List.set_cons_succ, e1, e1, enR_set l k c, show (k + 1) * 2 = k * 2 + 1 + 1 by omega]
    rfl
theorem row_set {w : World} {g n cp k : Nat} {l : List Ent} {c : Ent} (h : Row w (.slice (some ⟨g, 0, none⟩) n cp) l) (hn : l.length = n) (hk : k < n) :
    Row ((w.setCell ⟨g, k * 2, none⟩ (.string c.1)).setCell ⟨g, k * 2 + 1, none⟩ (.int .u64 c.2)) (.slice (some ⟨g, 0, none⟩) n cp) (l.set k c) ∧ (∀ i, i < n → ∃ u, w.cell? ⟨g, i * 2, none⟩ = some u ∧ ∃ u', w.cell? ⟨g, i * 2 + 1, none⟩ = some u') ∧ ∀ i, w.frozen? ⟨g, i, none⟩ = false := by
  have h' := h
  unfold Row at h ⊢
  rw [hn] at h
  rw [List.length_set, hn]
  obtain ⟨cur, hcur, hcc, hcm, hsz, htk, hxl⟩ := own_cur h
  refine ⟨own_of (cells_set (cells_set hcur)) hcc hcm (by simp [hsz]) ?_ ?_, fun i hi => ?_, fun i => by simp [World.frozen?, hcur]⟩
  · rw [enR_set, ← htk]
    simp [Array.toList_setIfInBounds, List.take_set]
  · rw [enR_len, List.length_set, hn]
  · obtain ⟨x, hx⟩ : ∃ x, l[i]? = some x := ⟨_, List.getElem?_eq_getElem (by omega)⟩
    obtain ⟨e0, e1⟩ := h'.two hn hx
    exact ⟨_, e0, _, e1⟩
end Go.Proofs.Ytgniiojeeobffaa
