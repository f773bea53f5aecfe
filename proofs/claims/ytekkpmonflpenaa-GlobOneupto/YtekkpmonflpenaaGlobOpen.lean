/-
  How arguments of signs are read: what the memory holds of them, and how many letters they have at most.
-/
import Derived.Test.YtekkpmonflpenaaRows
import Derived.Test.YtekkpmonflpenaaGlobTexts
import Derived.Lib.SmallJoins
import Derived.Deep.Slices
import Derived.Carry
namespace Go.Proofs.Ytekkpmonflpenaa
open Go.ChangeShapes Go.WideShapes Go.ChangeAt Go.RowKit
theorem laid_out : laidOutB Try.prog = true := by kernel_rfl
theorem cells_u8 : Try.prog.cellsOf 5 = 1 := by kernel_rfl
theorem cells_sign : Try.prog.cellsOf 33 = 4 := by kernel_rfl
theorem cells_i64 : Try.prog.cellsOf 3 = 1 := by kernel_rfl
theorem cells_row : Try.prog.cellsOf 31 = 1 := by kernel_rfl
theorem byte_of {n : Int} (h : (Lit.int .u8 n).wf = true) : ∃ b : UInt8, n = (b.toNat : Int) := by
  have hx : 0 ≤ n ∧ n ≤ 255 := by simpa [Lit.wf, IntKind.min, IntKind.max, IntKind.signed, IntKind.bits] using h
  exact ⟨UInt8.ofNat n.toNat, by rw [UInt8.toNat_ofNat_of_lt' (by show n.toNat < 256; omega)]; omega⟩
theorem bytes_of (zs : List Int) (h : ∀ n ∈ zs, (Lit.int .u8 n).wf = true) : ∃ l : List UInt8, zs = l.map (fun b => (b.toNat : Int)) := by
  induction zs with
  | nil => exact ⟨[], rfl⟩
  | cons n zs ih =>
    obtain ⟨b, hb⟩ := byte_of (h n (by simp))
    obtain ⟨l, hl⟩ := ih (fun m hm => h m (by simp [hm]))
    exact ⟨b :: l, by rw [hb, hl]; rfl⟩
theorem bulk_lits {H : Type} (k : IntKind) (zs : List Int) : Rows.uptoBulkAll (H := H) (lits k zs) = zs.length := by
  induction zs with
  | nil => rfl
  | cons n zs ih =>
    show Rows.uptoBulk (H := H) (.lit (.int k n)) + Rows.uptoBulkAll (lits k zs) = _
    rw [ih, List.length_cons]
    show 1 + _ = _
    omega
theorem mem_le_sum {l : List Nat} {n : Nat} (h : n ∈ l) : n ≤ l.sum := by
  induction l with
  | nil => cases h
  | cons m l ih =>
    rw [List.sum_cons]
    rcases List.mem_cons.1 h with rfl | h
    · omega
    · have := ih h; omega
section
variable {H : Type} {enc : TypeId × Value → H} {W : World}
theorem open_bytes {fuel : Nat} {cs : List Value} {x : DataW H × List MemPlace} (h : DataW.trod enc Try.prog W 0 (fun _ => true) true fuel 31 cs = some x) :
    ∃ v l, cs = [v] ∧ hasRow W v l ∧ l.length ≤ Rows.uptoBulk x.1 := by
  rcases open_ints Try.underlying31 Try.underlying5 cells_u8 h with ⟨hcs, hx⟩ | ⟨a, len, cap, zs, hcs, _, hl, hm, hz, hx, hcell, hwz⟩
  · exact ⟨_, [], hcs, .inl ⟨rfl, rfl⟩, by simp⟩
  · obtain ⟨bs, hbs⟩ := bytes_of zs hwz
    simp only [if_true] at hz
    have hbl : bs.length = cap := by rw [← hz, hbs, List.length_map]
    have hlen : (bs.take len).length = len := by rw [List.length_take]; omega
    refine ⟨_, bs.take len, hcs, .inr ⟨a, cap, by rw [hlen], by omega, hm, fun j hj => ?_⟩, ?_⟩
    · rw [hlen] at hj
      rw [hcell j (by omega), hbs]
      congr 2
      rw [List.getElem_take, List.getD, List.getElem?_map, List.getElem?_eq_getElem (by omega)]
      rfl
    · rw [hlen, hx]
      show len ≤ Rows.uptoBulkAll (H := H) (lits .u8 (zs.take len)) + Rows.uptoBulkAll (H := H) (lits .u8 (zs.drop len)) + 1
      rw [bulk_lits, bulk_lits, List.length_take]
      omega
theorem open_sign {fuel : Nat} {cs : List Value} {x : DataW H × List MemPlace} (h : DataW.trod enc Try.prog W 0 (fun _ => true) true fuel 33 cs = some x) :
    ∃ (g : SgL) (v : Value), cs = [.int .i64 g.k, .int .u8 g.a.toNat, .int .u8 g.b.toNat, v] ∧ hasRow W v g.l ∧ (-9223372036854775808 ≤ g.k ∧ g.k ≤ 9223372036854775807) ∧ g.l.length + 1 ≤ Rows.uptoBulk x.1 := by
  obtain ⟨y0, y1, y2, y3, n, hx, hlen, h0, h1, h2, h3⟩ := Go.Joins.trod_struct4 Try.underlying33 h
  rw [cells_sign] at hlen
  match cs, hlen with
  | [c0, c1, c2, c3], _ =>
    have h0 : DataW.trod enc Try.prog W 0 (fun _ => true) true n 3 [c0] = some y0 := by simpa [cells_i64] using h0
    have h1 : DataW.trod enc Try.prog W 0 (fun _ => true) true n 5 [c1] = some y1 := by simpa [cells_u8] using h1
    have h2 : DataW.trod enc Try.prog W 0 (fun _ => true) true n 5 [c2] = some y2 := by simpa [cells_u8] using h2
    have h3 : DataW.trod enc Try.prog W 0 (fun _ => true) true n 31 [c3] = some y3 := by simpa [cells_row] using h3
    obtain ⟨k, e0, _, w0⟩ := DataW.trod_int Try.underlying3 h0
    obtain ⟨a, e1, _, w1⟩ := DataW.trod_int Try.underlying5 h1
    obtain ⟨b, e2, _, w2⟩ := DataW.trod_int Try.underlying5 h2
    obtain ⟨v, l, e3, hr, hb⟩ := open_bytes h3
    obtain ⟨a', ha⟩ := byte_of w1
    obtain ⟨b', hb'⟩ := byte_of w2
    cases e0; cases e1; cases e2; cases e3
    refine ⟨⟨k, a', b', l⟩, c3, by rw [ha, hb'], hr, by simpa [Lit.wf, IntKind.min, IntKind.max, IntKind.signed, IntKind.bits] using w0, ?_⟩
    rw [hx]
    show l.length + 1 ≤ Rows.uptoBulk y0.1 + (Rows.uptoBulk y1.1 + (Rows.uptoBulk y2.1 + (Rows.uptoBulk y3.1 + 0))) + 1
    omega
theorem bulk_range (D : Nat → DataW H) (f : Nat → SgL) (n : Nat) (h : ∀ i, i < n → (f i).l.length + 1 ≤ Rows.uptoBulk (D i)) (a : Nat) :
    a ≤ n → (((List.range' a (n - a)).map f).map fun g => g.l.length + 1).sum ≤ Rows.uptoBulkAll ((List.range' a (n - a)).map D) := by
  intro ha
  generalize hm : n - a = m
  induction m generalizing a with
  | zero => simp
  | succ m ih =>
    rw [List.range'_succ, List.map_cons, List.map_cons, List.map_cons, List.sum_cons]
    show _ ≤ Rows.uptoBulk (D a) + Rows.uptoBulkAll ((List.range' (a + 1) m).map D)
    have h1 := h a (by omega)
    have h2 := ih (a + 1) (by omega) (by omega)
    omega
theorem open_signs {fuel : Nat} {cs : List Value} {x : DataW H × List MemPlace} (h : DataW.trod enc Try.prog W 0 (fun _ => true) true fuel 26 cs = some x) (hsm : Rows.uptoBulk x.1 ≤ 1048576) :
    ∃ v L, cs = [v] ∧ hasSigns W v L ∧ (L.map fun g => g.l.length + 1).sum ≤ 1048576 := by
  rcases Go.Deep.open_slice Try.underlying26 h with ⟨hcs, hx⟩ | ⟨a, len, cap, m, n, D, Pl, hcs, _, hl, hm, hmm, hx, hel⟩
  · exact ⟨_, [], hcs, .inl ⟨rfl, rfl⟩, by simp⟩
  · simp only [if_true] at hmm
    subst hmm
    have each : ∀ i, ∃ g : SgL, i < len → ∃ v, hasRow W v g.l ∧ (-9223372036854775808 ≤ g.k ∧ g.k ≤ 9223372036854775807) ∧ g.l.length + 1 ≤ Rows.uptoBulk (D i) ∧ W.cell? (a.add (i * 4)) = some (.int .i64 g.k) ∧ W.cell? ((a.add (i * 4)).add 1) = some (.int .u8 g.a.toNat) ∧ W.cell? ((a.add (i * 4)).add 2) = some (.int .u8 g.b.toNat) ∧ W.cell? ((a.add (i * 4)).add 3) = some v := by
      intro i
      by_cases hi : i < len
      · obtain ⟨cs', h1, h2⟩ := hel i (by omega)
        obtain ⟨g, v, hc, hr, hk, hb⟩ := open_sign h2
        rw [cells_sign] at h1
        obtain ⟨_, _, hcl⟩ := World.cells?_some h1
        refine ⟨g, fun _ => ⟨v, hr, hk, hb, ?_, ?_, ?_, ?_⟩⟩
        · have e := hcl 0 (by omega); rw [hc] at e; exact e
        · have e := hcl 1 (by omega); rw [hc] at e; exact e
        · have e := hcl 2 (by omega); rw [hc] at e; exact e
        · have e := hcl 3 (by omega); rw [hc] at e; exact e
      · exact ⟨⟨0, 0, 0, []⟩, fun h => absurd h hi⟩
    obtain ⟨f, hf⟩ := Classical.skolem.1 each
    have hb := bulk_range D f len (fun i hi => by obtain ⟨v, _, _, hb, _⟩ := hf i hi; exact hb) 0 (Nat.zero_le _)
    rw [Nat.sub_zero, ← List.range_eq_range'] at hb
    have hx2 : Rows.uptoBulk x.1 = Rows.uptoBulkAll ((List.range len).map D) + Rows.uptoBulkAll ((List.range (m - len)).map fun j => D (len + j)) + 1 := by rw [hx]; rfl
    have hL : ((List.range len).map f).length = len := by simp
    refine ⟨_, (List.range len).map f, hcs, .inr ⟨a, m, by rw [hL], by omega, hm, fun i hi => ?_⟩, by omega⟩
    rw [hL] at hi
    obtain ⟨v, hr, hk, hb1, c0, c1, c2, c3⟩ := hf i hi
    have e : ((List.range len).map f)[i]'(by rw [hL]; exact hi) = f i := by simp
    rw [e]
    refine ⟨v, ⟨hk.1, hk.2, ?_⟩, c0, c1, c2, c3, hr⟩
    have h3 : (f i).l.length + 1 ≤ (((List.range len).map f).map fun g => g.l.length + 1).sum := by
      apply mem_le_sum
      simp only [List.map_map, List.mem_map, List.mem_range]
      exact ⟨i, hi, rfl⟩
    omega
end
theorem sum_len (L : List SgL) : (txt L).length + 0 ≤ 8 * (L.map fun g => g.l.length + 1).sum ∧ L.length ≤ (L.map fun g => g.l.length + 1).sum := by
  induction L with
  | nil => simp [txt]
  | cons g L ih =>
    have h := Gb.wr_len g.k g.a g.b g.l
    have e : (txt (g :: L)).length = (Gb.wr g.k g.a g.b g.l).length + (txt L).length := by simp [txt, SgL.wr]
    rw [e, List.map_cons, List.sum_cons, List.length_cons]
    omega
theorem signs_small {L : List SgL} (h : (L.map fun g => g.l.length + 1).sum ≤ 1048576) : L.length ≤ 1048576 ∧ (txt (L.take 40)).length ≤ 16777216 := by
  have h1 := sum_len L
  have h2 := txt_le (L := L) 40
  omega
end Go.Proofs.Ytekkpmonflpenaa
