/-
  Contracts over this program, put together.
-/
import Derived.Test.YtmgeaanbgjbkcaaGreatMWd
import Derived.Test.YtmgeaanbgjbkcaaGreatMWe
import Derived.Test.YtmgeaanbgjbkcaaGreatRows
import Derived.ChangeSlices
import Derived.SizedLaws
import Derived.ProofKit
import Derived.OpenShut
import Derived.Deep.Strs
import Derived.Deep.Slices
import Derived.Carry
import Derived.ShutString
set_option maxHeartbeats 16000000
namespace Go.Proofs.YtmgeaanbgjbkcaaGreat
open Go.RowKit Go.Shelf
set_option linter.unusedVariables false
set_option linter.unusedSimpArgs false
set_option maxRecDepth 100000
namespace Vl
def tA : ByteArray := { data := #[97] }
def tB : ByteArray := { data := #[98] }
def dW : Dt := ⟨4, et, [tB, tA], [], []⟩
theorem ab_ne : tB ≠ tA := by decide
theorem dW_ok : Rfz dW 0 := by
  have h1 : ¬ Bad dW := by
    rintro (h | h | ⟨e, he, _⟩)
    · exact h (.inr (.inl ⟨.inr rfl, rfl, rfl, rfl⟩))
    · rcases h with ⟨_, h⟩ | h | h
      · exact h (by show [tB, tA].Nodup; simp [ab_ne])
      · exact h List.nodup_nil
      · exact h List.nodup_nil
    · cases he
  have h2 : ¬ Long dW := by
    rintro (h | ⟨x, hx, h⟩ | ⟨x, hx, _⟩ | ⟨x, hx, _⟩)
    · exact absurd h (by decide)
    · have hx : x ∈ [tB, tA] := hx
      simp at hx
      rcases hx with rfl | rfl
      · exact absurd h (by decide)
      · exact absurd h (by decide)
    · cases hx
    · cases hx
  have h3 : ¬ Full dW := by
    rintro (h | h | h) <;> exact absurd h (by decide)
  exact .inr (.inr (.inr ⟨rfl, h1, h2, h3⟩))
theorem dW_wf : Wf dW := ⟨by decide, fun x hx => by
  have hx : x ∈ [tB, tA] := hx
  simp at hx
  rcases hx with rfl | rfl <;> decide, (fun x hx => by cases hx), (fun x hx => by cases hx)⟩
theorem dW_told {d' : Dt} (h : ∃ L, d' = ⟨4, et, L, [], []⟩ ∧ DU.Srs dW.items L) : d' = ⟨4, et, [tA, tB], [], []⟩ := by
  obtain ⟨L, rfl, h2⟩ := h
  have hs : [tA, tB].Pairwise (fun a b => DU.ky a < DU.ky b) := by
    refine List.pairwise_cons.2 ⟨fun b hb => ?_, List.pairwise_cons.2 ⟨fun b hb => (by cases hb), List.Pairwise.nil⟩⟩
    simp at hb
    subst hb
    decide
  rw [DU.srs_eq h2.2 hs (h2.1.trans (List.Perm.swap _ _ _))]
theorem own_lit2 (w : World) (a b : ByteArray) : It (w.alloc (.cells #[.string a, .string b] 9)) (.slice (some ⟨w.heap.size, 0, none⟩) 2 2) [a, b] := by
  refine ⟨rfl, .inr ⟨w.heap.size, 2, #[.string a, .string b], rfl, Nat.zero_le _, heap_alloc_new _ _, Nat.le_refl _, by decide, rfl, rfl⟩⟩
theorem wakes_any (w : World) : Calls Tryz.prog 36 #[] w fun e w' => e = .returned (.bool true) ∧ Below w.heap.size w w' := by
  obtain ⟨W1, hW1⟩ : ∃ W1, w.alloc (.cells #[.string { data := #[98] }, .string { data := #[97] }] 9) = W1 := ⟨_, rfl⟩
  have hb1 : Below w.heap.size w W1 := by rw [← hW1]; exact (Below.refl _ w).alloc (Nat.le_refl _) _
  have hP : Pln W1 (.agg #[.int .i64 4, .string { data := #[] }, .slice (some ⟨w.heap.size, 0, none⟩) 2 2, .slice none 0 0, .slice none 0 0]) dW := ⟨_, _, _, rfl, by rw [← hW1]; exact own_lit2 w tB tA, own_nil _ _ _, own_nil _ _ _⟩
  have m1 := of_any W1 _ dW 5 hP dW_wf (by decide)
  have HB1 := keep hb1
  have HW1 := keep hW1
  clear hb1 hW1 hP
  go_enter Tryz.func36, Tryz.ntmps36
  go_wp2_with fail
  rw [HW1.out]
  refine m1.mono ?_
  rintro _ V1 ⟨hO, hb⟩
  have HBa := keep (HB1.out.trans (hb.mono HB1.out.size))
  clear hb m1
  rcases hO with ⟨c, hc0, hc, rfl⟩ | ⟨h0, b, rfl, hv⟩
  · exact absurd (hc.one dW_ok) hc0
  · have mC := vcost_any hv dW_wf
    have ec : ((cstD dW : Nat) : Int) = 50 := by decide
    rw [ec] at mC
    have mP := vplain4 hv rfl
    clear hv h0 ec
    go_wp2_with fail
    refine mC.mono ?_
    rintro _ V2 ⟨rfl, hw⟩
    obtain rfl := hw.symm
    clear mC
    go_wp2_with fail
    refine mP.mono ?_
    rintro _ V3 ⟨⟨V, d', rfl, hPl, hT⟩, hb3⟩
    obtain rfl := dW_told hT
    obtain ⟨iv, pv, rv, rfl, q1, q2, q3⟩ := hPl
    have HB3 := keep (HBa.out.trans (hb3.mono HBa.out.size))
    have hb4 : Below V3.heap.size V3 (V3.alloc (.cells #[.string { data := #[97] }, .string { data := #[98] }] 9)) := (Below.refl _ _).alloc (Nat.le_refl _) _
    have mT := texts_any (V3.alloc (.cells #[.string { data := #[97] }, .string { data := #[98] }] 9)) iv (.slice (some ⟨V3.heap.size, 0, none⟩) 2 2) [tA, tB] (kept q1 hb4) (own_lit2 V3 tA tB)
    have HB4 := keep (HB3.out.trans (hb4.mono HB3.out.size))
    unfold plV
    have hfd : ∀ w : World, (Instr.field 30 (.agg #[.int .i64 4, .string et, iv, pv, rv]) 2).run Tryz.prog w = .ok iv w := fun _ => by rfl
    clear hT q1 q2 q3 hb3 hb4 mP
    go_wp2_with fail
    refine mT.mono ?_
    rintro _ V5 ⟨rfl, hb5⟩
    go_wp2
    go_ret
    exact ⟨rfl, HB4.out.trans (hb5.mono HB4.out.size)⟩
end Vl
end Go.Proofs.YtmgeaanbgjbkcaaGreat

namespace Go.Proofs.YtmgeaanbgjbkcaaGreat
open Go.RowKit Go.Shelf
set_option linter.unusedVariables false
set_option linter.unusedSimpArgs false
set_option maxRecDepth 100000
namespace Vl
def Arg (w : World) (kd : Int) (tx : ByteArray) (io po no so : Option Addr) (n1 n2 n3 n4 k1 k2 : Nat) (d : Dt) : Prop :=
  ∃ I P N S, d = ⟨kd, tx, I, P, rkz N S⟩ ∧ I.length = n1 ∧ P.length = n2 ∧ N.length = n3 ∧ S.length = n4 ∧ In w io (I.map Value.string) ∧ In w po (enP P) ∧ In w no (N.map Value.string) ∧ In w so (S.map fun (x : Nat) => Value.int .u64 (x : Int)) ∧
    (io = none → k1 = 0) ∧ (po = none → k2 = 0) ∧ n1 ≤ 1048576 ∧ n2 ≤ 1048576 ∧ n3 ≤ 1048576
end Vl
end Go.Proofs.YtmgeaanbgjbkcaaGreat

namespace Go.Proofs.YtmgeaanbgjbkcaaGreat
open Go.ChangeShapes Go.WideShapes Go.ChangeAt Go.RowKit
set_option maxRecDepth 100000
set_option linter.unusedVariables false
namespace Vl
theorem cells_dt : Tryz.prog.cellsOf 26 = 6 := by kernel_rfl
theorem cells_int : Tryz.prog.cellsOf 3 = 1 := by kernel_rfl
theorem cells_u64 : Tryz.prog.cellsOf 27 = 1 := by kernel_rfl
theorem cells_str : Tryz.prog.cellsOf 9 = 1 := by kernel_rfl
theorem cells_ss : Tryz.prog.cellsOf 22 = 1 := by kernel_rfl
theorem cells_ps : Tryz.prog.cellsOf 23 = 1 := by kernel_rfl
theorem cells_us : Tryz.prog.cellsOf 24 = 1 := by kernel_rfl
theorem cells_pr : Tryz.prog.cellsOf 70 = 2 := by kernel_rfl
section
variable {H : Type} {enc : TypeId × Value → H} {W : World}
def Big (d : DataW H) (m : Nat) : Prop := (d = .nil ∧ m = 0) ∨ ∃ D E, d = .slice D E ∧ D.length = m
theorem cell_lt {w : World} {a : Addr} {v : Value} (h : w.cell? a = some v) : a.block < w.heap.size := World.block_lt_of_cell? _ _ h
theorem open_ones {t e : TypeId} {α : Type} [Inhabited α] {f : α → Value} {Q : α → Prop} (ht : Tryz.prog.underlying t = some (.slice e)) (hc : Tryz.prog.cellsOf e = 1) (he : ∀ {fuel : Nat} {cs : List Value} {x : DataW H × List MemPlace}, DataW.trod enc Tryz.prog W 0 (fun _ => true) true fuel e cs = some x → ∃ y, cs = [f y] ∧ Q y)
    {fuel : Nat} {v : Value} {x : DataW H × List MemPlace} (h : DataW.trod enc Tryz.prog W 0 (fun _ => true) true fuel t [v] = some x) :
    ∃ (so : Option Addr) (c : Nat) (S : List α), v = .slice so S.length c ∧ In W so (S.map f) ∧ (so = none → c = 0) ∧ (∀ y ∈ S, Q y) ∧ Big x.1 S.length := by
  rcases Go.Deep.open_slice ht h with ⟨hcs, hx⟩ | ⟨a, len, cap, m, n, D, Pl, hcs, _, hl, hm, hmm, hx, hel⟩
  · cases hcs
    cases hx
    exact ⟨none, 0, [], rfl, fun j u hu => (by simp at hu), fun _ => rfl, fun y hy => (by cases hy), .inl ⟨rfl, rfl⟩⟩
  · cases hcs
    simp only [if_true] at hmm
    subst hmm
    have each : ∀ i, ∃ g : α, i < len → W.cell? (a.add i) = some (f g) ∧ Q g := by
      intro i
      by_cases hi : i < len
      · obtain ⟨cs', h1, h2⟩ := hel i (by omega)
        obtain ⟨g, hg, hw⟩ := he h2
        rw [hc] at h1
        obtain ⟨_, _, hcl⟩ := World.cells?_some h1
        refine ⟨g, fun _ => ⟨?_, hw⟩⟩
        have e := hcl 0 (by omega)
        rw [hg, Nat.mul_one] at e
        exact e
      · exact ⟨default, fun h => absurd h hi⟩
    obtain ⟨F, hF⟩ := Classical.skolem.1 each
    have hL : ((List.range len).map F).length = len := by simp
    cases hx
    refine ⟨some a, _, (List.range len).map F, by rw [hL], fun j u hu => ?_, fun h => (by cases h), fun y hy => ?_, .inr ⟨_, _, rfl, by simp⟩⟩
    · rw [List.map_map, List.getElem?_map] at hu
      cases hj : (List.range len)[j]? with
      | none => rw [hj] at hu; cases hu
      | some i =>
        rw [hj] at hu
        have hlt : j < len := by have := (List.getElem?_eq_some_iff.1 hj).1; simpa using this
        have hij : i = j := by rw [List.getElem?_range hlt] at hj; cases hj; rfl
        subst hij
        cases hu
        obtain ⟨q1, q2⟩ := hF i hlt
        have := cell_lt q1
        rw [add_block'] at this
        exact ⟨a, rfl, this, q1⟩
    · obtain ⟨i, hi, rfl⟩ := List.mem_map.1 hy
      exact (hF i (by simpa using hi)).2
theorem add_step (a : Addr) (n : Nat) : (⟨(a.add n).block, (a.add n).off + 1, none⟩ : Addr) = a.add (n + 1) := by
  unfold Addr.add
  by_cases h : n = 0
  · subst h; simp
  · simp [h]; omega
theorem open_pairs {fuel : Nat} {v : Value} {x : DataW H × List MemPlace} (h : DataW.trod enc Tryz.prog W 0 (fun _ => true) true fuel 23 [v] = some x) :
    ∃ (so : Option Addr) (c : Nat) (S : List (ByteArray × ByteArray)), v = .slice so S.length c ∧ In W so (enP S) ∧ (so = none → c = 0) ∧ (∀ y ∈ S, y.1.size ≤ maxLen ∧ y.2.size ≤ maxLen) ∧ Big x.1 S.length := by
  rcases Go.Deep.open_slice Tryz.underlying23 h with ⟨hcs, hx⟩ | ⟨a, len, cap, m, n, D, Pl, hcs, _, hl, hm, hmm, hx, hel⟩
  · cases hcs
    cases hx
    exact ⟨none, 0, [], rfl, fun j u hu => (by simp [enP] at hu), fun _ => rfl, fun y hy => (by cases hy), .inl ⟨rfl, rfl⟩⟩
  · cases hcs
    simp only [if_true] at hmm
    subst hmm
    have each : ∀ i, ∃ g : ByteArray × ByteArray, i < len → (W.cell? (a.add (i * 2)) = some (.string g.1) ∧ W.cell? (a.add (i * 2 + 1)) = some (.string g.2)) ∧ g.1.size ≤ maxLen ∧ g.2.size ≤ maxLen := by
      intro i
      by_cases hi : i < len
      · obtain ⟨cs', h1, h2⟩ := hel i (by omega)
        obtain ⟨xs, n', _, hx', hlen, hlx, hf⟩ := DataW.trod_struct Tryz.underlying70 h2
        rw [cells_pr] at hlen h1
        obtain ⟨_, _, hcl⟩ := World.cells?_some h1
        match cs', hlen with
        | [c0, c1], _ =>
          match xs, hlx with
          | [y0, y1], _ =>
            have t0 : DataW.trod enc Tryz.prog W 0 (fun _ => true) true n' 9 [c0] = some y0 := by simpa [cells_str] using hf 0 _ rfl
            have t1 : DataW.trod enc Tryz.prog W 0 (fun _ => true) true n' 9 [c1] = some y1 := by simpa [cells_str] using hf 1 _ rfl
            obtain ⟨s0, e0, _, z0⟩ := DataW.trod_string Tryz.underlying9 t0
            obtain ⟨s1, e1, _, z1⟩ := DataW.trod_string Tryz.underlying9 t1
            cases e0; cases e1
            refine ⟨(s0, s1), fun _ => ⟨⟨?_, ?_⟩, z0, z1⟩⟩
            · exact hcl 0 (by omega)
            · have e := hcl 1 (by omega)
              have ea : (⟨(a.add (i * 2)).block, (a.add (i * 2)).off + 1, none⟩ : Addr) = a.add (i * 2 + 1) := add_step a (i * 2)
              rw [← ea]; exact e
      · exact ⟨(.empty, .empty), fun h => absurd h hi⟩
    obtain ⟨F, hF⟩ := Classical.skolem.1 each
    have hL : ((List.range len).map F).length = len := by simp
    cases hx
    refine ⟨some a, _, (List.range len).map F, by rw [hL], fun j u hu => ?_, fun h => (by cases h), fun y hy => ?_, .inr ⟨_, _, rfl, by simp⟩⟩
    · have hj2 : j < len * 2 := by
        have := (List.getElem?_eq_some_iff.1 hu).1
        rwa [enP_len, hL] at this
      have hk : ((List.range len).map F)[j / 2]? = some (F (j / 2)) := by rw [List.getElem?_map, List.getElem?_range (by omega)]; rfl
      have q := fm2 (f := fun e : ByteArray × ByteArray => [Value.string e.1, .string e.2]) (fun _ => rfl) hk
      obtain ⟨⟨q1, q2⟩, _⟩ := hF (j / 2) (by omega)
      have hbl := cell_lt q1
      rw [add_block'] at hbl
      refine ⟨a, rfl, hbl, ?_⟩
      rcases Nat.mod_two_eq_zero_or_one j with hm2 | hm2
      · have ej : j / 2 * 2 = j := by omega
        rw [ej] at q q1
        have := q.1
        rw [show (enP ((List.range len).map F))[j]? = some (.string (F (j / 2)).1) from this] at hu
        cases hu
        exact q1
      · have ej : j / 2 * 2 + 1 = j := by omega
        have h2 := q.2
        rw [ej] at h2 q2
        rw [show (enP ((List.range len).map F))[j]? = some (.string (F (j / 2)).2) from h2] at hu
        cases hu
        exact q2
    · obtain ⟨i, hi, rfl⟩ := List.mem_map.1 hy
      exact (hF i (by simpa using hi)).2
theorem bulk_one (d : DataW H) : 1 ≤ Rows.uptoBulk d := by
  unfold Rows.uptoBulk
  split <;> omega
theorem bulk_len (D : List (DataW H)) : D.length ≤ Rows.uptoBulkAll D := by
  induction D with
  | nil => exact Nat.zero_le _
  | cons d D ih =>
    have := bulk_one d
    simp only [Rows.uptoBulkAll, List.length_cons]
    omega
theorem bulk_big {d : DataW H} {m : Nat} (hb : Big d m) : m ≤ Rows.uptoBulk d := by
  rcases hb with ⟨rfl, rfl⟩ | ⟨D, E, rfl, rfl⟩
  · exact Nat.zero_le _
  · have := bulk_len D
    simp only [Rows.uptoBulk]
    omega
theorem u64_nat {x : Int} (h : (Lit.int .u64 x).wf = true) : ∃ y : Nat, x = (y : Int) ∧ y < Dw.M := Dw.u64_of h
theorem open_datum {v : Value} {d0 : DataW H} {p : List MemPlace} {base : Nat} (o : Value.okWide Tryz.prog W .any base 26 v) (h : DataW.Trod enc Tryz.prog W 0 (fun _ => true) true 26 v d0 p) (hk : Rows.uptoBulk d0 ≤ 1048576) :
    ∃ kd tx io po no so n1 n2 n3 n4 k1 k2 k3 k4 d, v = .agg #[.int .i64 kd, .string tx, .slice io n1 k1, .slice po n2 k2, .slice no n3 k3, .slice so n4 k4] ∧ Arg W kd tx io po no so n1 n2 n3 n4 k1 k2 d ∧ d.kind = kd ∧ d.text = tx ∧ Wf d ∧ (Lit.int .i64 kd).wf = true ∧ d.items.length ≤ 1048576 ∧ d.pairs.length ≤ 1048576 ∧ d.ranks.length ≤ 1048576 ∧ (no = none → k3 = 0) ∧ d.ranks.length = n3 := by
  obtain ⟨cs, rfl, hsz⟩ := okWide_struct Tryz.underlying26 o
  obtain ⟨fuel, hf0⟩ := h
  obtain ⟨xs, n, _, hx, hlen, hlx, hf⟩ := DataW.trod_struct Tryz.underlying26 hf0
  rw [cells_dt] at hsz
  have hcl : cs.toList.length = 6 := by rw [Array.length_toList]; exact hsz
  obtain ⟨c0, c1, c2, c3, c4, c5, hcs⟩ : ∃ c0 c1 c2 c3 c4 c5, cs.toList = [c0, c1, c2, c3, c4, c5] := by
    match cs.toList, hcl with
    | [c0, c1, c2, c3, c4, c5], _ => exact ⟨c0, c1, c2, c3, c4, c5, rfl⟩
  have hcs' : cs = #[c0, c1, c2, c3, c4, c5] := by
    have : cs = cs.toList.toArray := by simp
    rw [this, hcs]
  subst hcs'
  match xs, hlx with
  | [y0, y1, y2, y3, y4, y5], _ =>
    have t0 : DataW.trod enc Tryz.prog W 0 (fun _ => true) true n 3 [c0] = some y0 := by simpa [cells_int, Value.cells] using hf 0 _ rfl
    have t1 : DataW.trod enc Tryz.prog W 0 (fun _ => true) true n 9 [c1] = some y1 := by simpa [cells_str, Value.cells] using hf 1 _ rfl
    have t2 : DataW.trod enc Tryz.prog W 0 (fun _ => true) true n 22 [c2] = some y2 := by simpa [cells_ss, Value.cells] using hf 2 _ rfl
    have t3 : DataW.trod enc Tryz.prog W 0 (fun _ => true) true n 23 [c3] = some y3 := by simpa [cells_ps, Value.cells] using hf 3 _ rfl
    have t4 : DataW.trod enc Tryz.prog W 0 (fun _ => true) true n 22 [c4] = some y4 := by simpa [cells_ss, Value.cells] using hf 4 _ rfl
    have t5 : DataW.trod enc Tryz.prog W 0 (fun _ => true) true n 24 [c5] = some y5 := by simpa [cells_us, Value.cells] using hf 5 _ rfl
    obtain ⟨kd, e0, _, w0⟩ := DataW.trod_int Tryz.underlying3 t0
    obtain ⟨tx, e1, _, w1⟩ := DataW.trod_string Tryz.underlying9 t1
    have hstr : ∀ {fuel : Nat} {cs : List Value} {x : DataW H × List MemPlace}, DataW.trod enc Tryz.prog W 0 (fun _ => true) true fuel 9 cs = some x → ∃ y : ByteArray, cs = [.string y] ∧ y.size ≤ maxLen := fun h => by
      obtain ⟨s, e, _, z⟩ := DataW.trod_string Tryz.underlying9 h
      exact ⟨s, e, z⟩
    have hu64 : ∀ {fuel : Nat} {cs : List Value} {x : DataW H × List MemPlace}, DataW.trod enc Tryz.prog W 0 (fun _ => true) true fuel 27 cs = some x → ∃ y : Nat, cs = [.int .u64 (y : Int)] ∧ y < Dw.M := fun h => by
      obtain ⟨s, e, _, z⟩ := DataW.trod_int Tryz.underlying27 h
      obtain ⟨y, rfl, hy⟩ := u64_nat z
      exact ⟨y, e, hy⟩
    haveI : Inhabited ByteArray := ⟨.empty⟩
    obtain ⟨io, k1, I, rfl, a1, b1, g1, B1⟩ := open_ones Tryz.underlying22 cells_str hstr t2
    obtain ⟨po, k2, P, rfl, a2, b2, g2, B2⟩ := open_pairs t3
    obtain ⟨no, k3, N, rfl, a3, b3, g3, B3⟩ := open_ones Tryz.underlying22 cells_str hstr t4
    obtain ⟨so, k4, S, rfl, a4, b4, g4, B4⟩ := open_ones (α := Nat) (f := fun (y : Nat) => Value.int .u64 (y : Int)) Tryz.underlying24 cells_u64 hu64 t5
    cases e0; cases e1; cases hx
    have q1 := bulk_big B1
    have q2 := bulk_big B2
    have q3 := bulk_big B3
    simp only [Rows.uptoBulk, Rows.uptoBulkAll, List.map_cons, List.map_nil] at hk
    have s1 : I.length ≤ 1048576 := by omega
    have s2 : P.length ≤ 1048576 := by omega
    have s3 : N.length ≤ 1048576 := by omega
    refine ⟨kd, tx, io, po, no, so, _, _, _, _, k1, k2, k3, k4, ⟨kd, tx, I, P, rkz N S⟩, rfl, ⟨I, P, N, S, rfl, rfl, rfl, rfl, rfl, a1, a2, a3, a4, b1, b2, s1, s2, s3⟩, rfl, rfl, ⟨w1, g1, g2, fun x hx => ?_⟩, w0, s1, s2, by rw [rkz_len]; exact s3, b3, rkz_len N S⟩
    unfold rkz at hx
    obtain ⟨i, hi, rfl⟩ := List.mem_map.1 hx
    have hi' : i < N.length := by simpa using hi
    refine ⟨?_, ?_⟩
    · have : N.getD i .empty = N[i] := by simp [hi']
      rw [this]
      exact g3 _ (List.getElem_mem hi')
    · dsimp only
      by_cases hs : i < S.length
      · have : S.getD i f15 = S[i] := by simp [hs]
        rw [this]
        exact g4 _ (List.getElem_mem hs)
      · have : S.getD i f15 = f15 := by rw [List.getD_eq_getElem?_getD, List.getElem?_eq_none (by omega)]; rfl
        rw [this]
        decide
end
end Vl
end Go.Proofs.YtmgeaanbgjbkcaaGreat
