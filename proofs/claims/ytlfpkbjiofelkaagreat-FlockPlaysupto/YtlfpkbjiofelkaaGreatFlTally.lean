/-
  Contracts over this program: in how many flocks a text is (tally).
-/
import Derived.Test.YtlfpkbjiofelkaaGreatFlSort
import Derived.Maps.OwnIn
import Derived.Maps.Views
import Derived.Test.YtlfpkbjiofelkaaGreatFlMembers
/-
  A map that counts texts, in the memory.
-/
namespace Go.Proofs.YtlfpkbjiofelkaaGreat
open Go.RowKit Go.Shelf Go.Maps
/-- the map in block b counts: c says how often; n bounds its entries -/
def Tal (w : World) (b n : Nat) (c : ByteArray → Nat) : Prop :=
  ∃ D : DataW Unit, w.ownsMap Tryz.prog 9 (plainElem Tryz.prog 3) b n D ∧ (∀ k, D.atKey (.string (ky k)) (.lit (.int .i64 0)) = .lit (.int .i64 ((c k : Nat) : Int))) ∧ ∀ k, has D (.string (ky k)) = decide (0 < c k)
theorem key_of (k : ByteArray) (hk : k.size ≤ maxLen) : keyOf Tryz.prog 9 (.string k) = some (.string (ky k)) := by
  simp [keyOf, Tryz.underlying9, mapKey, hk, ky]
theorem Tal.made (w : World) : Tal (w.alloc (.map #[] 0)) w.heap.size 0 (fun _ => 0) :=
  ⟨.map [], World.ownsMap_made w _ _ _, fun _ => rfl, fun _ => rfl⟩
theorem Tal.lt {w : World} {b n : Nat} {c : ByteArray → Nat} (h : Tal w b n c) : b < w.heap.size := by
  obtain ⟨D, h1, _⟩ := h
  exact h1.lt
theorem Tal.kept {w w' : World} {b n : Nat} {c : ByteArray → Nat} (h : Tal w b n c) (hk : w'.heap[b]? = w.heap[b]?) : Tal w' b n c := by
  obtain ⟨D, ⟨es, clock, hb, F, hs, hD⟩, h2⟩ := h
  exact ⟨D, ⟨es, clock, hk.trans hb, F, hs, hD⟩, h2⟩
theorem Tal.look {w : World} {b n : Nat} {c : ByteArray → Nat} (h : Tal w b n c) (k : ByteArray) (hk : k.size ≤ maxLen) :
    (Instr.lookup 80 (.map (some b)) (.string k) false).run Tryz.prog w = .ok (.int .i64 ((c k : Nat) : Int)) w := by
  obtain ⟨D, h1, h2, _⟩ := h
  obtain ⟨x, hrun, hat, _⟩ := h1.lookup_int (string_keyed Tryz.underlying9) Tryz.underlying80 Tryz.underlying3 (Tryz.zeroValue3 w) (key_of k hk)
  rw [h2 k] at hat
  cases hat
  exact hrun
theorem Tal.put {w : World} {b n : Nat} {c : ByteArray → Nat} (h : Tal w b n c) (k : ByteArray) (hk : k.size ≤ maxLen) (hn : n < maxLen) (v : Nat) (hv : v < 4611686018427387904) (hv0 : 0 < v) :
    ∃ w', (Instr.mapUpdate 80 (.map (some b)) (.string k) (.int .i64 ((v : Nat) : Int))).run Tryz.prog w = .ok () w' ∧ Tal w' b (n + 1) (fun x => if x = k then v else c x) ∧ w.grownBy w' (some b) := by
  obtain ⟨D, h1, h2, h3⟩ := h
  have hM : IsMap D := by obtain ⟨_, _, _, _, _, hD⟩ := h1; exact ⟨_, hD⟩
  obtain ⟨w', r1, r2, r3⟩ := h1.update (string_keyed Tryz.underlying9) Tryz.underlying80 hn (key_of k hk) (plainElem_int (H := Unit) (P := Tryz.prog) (e := 3) Tryz.underlying3 (a := (v : Int)) (by have h1 : IntKind.i64.min = -9223372036854775808 := rfl; have h2 : IntKind.i64.max = 9223372036854775807 := rfl; simp [Lit.wf, h1, h2]; omega))
  refine ⟨w', r1, ⟨_, r2, fun x => ?_, fun x => ?_⟩, r3⟩
  · dsimp only
    by_cases e : x = k
    · subst e
      rw [if_pos rfl, atKey_put_same hM (by trivial)]
    · rw [if_neg e, atKey_put_other (fun e' => e (ky_inj (by injection e'))), h2 x]
  · dsimp only
    by_cases e : x = k
    · subst e
      rw [has_put_same hM (by trivial)]; simp [hv0]
    · rw [has_put_other (fun e' => e (ky_inj (by injection e'))), h3 x]; simp [e]
end Go.Proofs.YtlfpkbjiofelkaaGreat

namespace Go.Proofs.YtlfpkbjiofelkaaGreat
open Go.RowKit Go.Shelf
attribute [local go_sem] Oper.semAt_some
/-- does a row have a text? -/
def inB (k : ByteArray) (l : List ByteArray) : Bool := l.any (fun x => decide (x = k))
theorem inB_iff (k : ByteArray) (l : List ByteArray) : inB k l = true ↔ k ∈ l := by
  unfold inB
  rw [List.any_eq_true]
  constructor
  · rintro ⟨x, hx, e⟩
    rw [decide_eq_true_eq] at e
    exact e ▸ hx
  · intro h
    exact ⟨k, h, decide_eq_true rfl⟩
theorem inB_snoc (k x : ByteArray) (l : List ByteArray) : inB k (l ++ [x]) = (inB k l || decide (x = k)) := by simp [inB]
/-- how many of the rows have a text -/
def tal (ls : List (List ByteArray)) (k : ByteArray) : Nat := (ls.filter (fun l => inB k l)).length
theorem tal_nil (k : ByteArray) : tal [] k = 0 := rfl
theorem tal_snoc (ls : List (List ByteArray)) (l : List ByteArray) (k : ByteArray) : tal (ls ++ [l]) k = tal ls k + if inB k l then 1 else 0 := by
  unfold tal
  rw [List.filter_append, List.length_append]
  by_cases h : inB k l <;> simp [h]
theorem tal_le (ls : List (List ByteArray)) (k : ByteArray) : tal ls k ≤ ls.length := List.length_filter_le _ _
theorem sum_take {α : Type} (f : α → Nat) (l : List α) (i : Nat) : ((l.take i).map f).sum ≤ (l.map f).sum := by
  conv => rhs; rw [← List.take_append_drop i l, List.map_append, List.sum_append]
  omega
/-- a flock in block R of W has the members ks -/
def Flk (W : World) (R : Nat) (ks : List ByteArray) : Prop := ∃ h N r b seed s, Rec h N W r R b seed s ∧ N ≤ 2600000000000 ∧ ks = kys s
theorem Flk.below {W w : World} {R : Nat} {ks : List ByteArray} (h : Flk W R ks) (hb : Below W.heap.size W w) : Flk w R ks := by
  obtain ⟨h, N, r, b, seed, s, h1, h2, h3⟩ := h
  exact ⟨h, N, r, b, seed, s, h1.below hb, h2, h3⟩
/-- what tally holds between two flocks; mb: the map's block -/
def TlS (W : World) (ls : List (List ByteArray)) (n : Nat) (Ds : List Nat) (w : World) : Prop :=
  Tal w W.heap.size n (tal ls) ∧ w.heap[W.heap.size + 1]? = some (.cells #[.map (some W.heap.size)] 80 (0, 0)) ∧ Below W.heap.size W w ∧ Ds.Nodup ∧ ∀ D ∈ Ds, W.heap.size + 2 ≤ D ∧ w.heap[D]? = some (.deferred (some []))
/-- .. and between two members of one -/
def TlI (W : World) (ls : List (List ByteArray)) (n : Nat) (Ds : List Nat) (es : List Ent) (M : Nat → Prop) (m : Nat) (w : World) : Prop :=
  (¬ M W.heap.size ∧ Tal w W.heap.size (n + m) (fun k => tal ls k + if inB k ((es.take m).map (fun e : Ent => e.1)) then 1 else 0)) ∧ (¬ M (W.heap.size + 1) ∧ w.heap[W.heap.size + 1]? = some (.cells #[.map (some W.heap.size)] 80 (0, 0))) ∧
    Below W.heap.size W w ∧ (∀ k, M k → W.heap.size ≤ k) ∧ ∀ D ∈ Ds, ¬ M D ∧ w.heap[D]? = some (.deferred (some []))
theorem TlI.abd {W : World} {ls : List (List ByteArray)} {n : Nat} {Ds : List Nat} {es : List Ent} : Abd (TlI W ls n Ds es) := by
  rintro M M' m A B ⟨⟨h1, h1'⟩, ⟨h2, h2'⟩, h5, h6, h7⟩ hs hx
  have keepB : ∀ k o, ¬ M k → A.heap[k]? = some o → ¬ M' k ∧ B.heap[k]? = some o := fun k o hn ho => by
    have hl := (Array.getElem?_eq_some_iff.1 ho).1
    exact ⟨hx.lt hl hn, (hs.2.2 k hl hn).trans ho⟩
  exact ⟨⟨hx.lt h1'.lt h1, h1'.kept (hs.2.2 _ h1'.lt h1)⟩, keepB _ _ h2 h2', h5.trans (hs.below h5.size h6), hx.ge h5.size h6, fun D hD => keepB _ _ (h7 D hD).1 (h7 D hD).2⟩
theorem take_key {es : List Ent} {m : Nat} {e : Ent} (hn : (es.map (fun e : Ent => e.1)).Nodup) (he : es[m]? = some e) : e.1 ∉ (es.take m).map (fun e : Ent => e.1) := by
  intro h
  obtain ⟨hm, he'⟩ := List.getElem?_eq_some_iff.1 he
  have h1 : (es.take m).map (fun e : Ent => e.1) ++ (es.drop m).map (fun e : Ent => e.1) = es.map (fun e : Ent => e.1) := by rw [← List.map_append, List.take_append_drop]
  rw [← h1, List.nodup_append] at hn
  refine hn.2.2 _ h e.1 ?_ rfl
  rw [List.drop_eq_getElem_cons hm, he']
  simp
theorem take_count {es : List Ent} {m : Nat} {e : Ent} (he : es[m]? = some e) (ls : List (List ByteArray)) :
    (fun x => if x = e.1 then tal ls e.1 + 1 else tal ls x + if inB x ((es.take m).map (fun e : Ent => e.1)) then 1 else 0) = fun x => tal ls x + if inB x ((es.take (m + 1)).map (fun e : Ent => e.1)) then 1 else 0 := by
  funext x
  obtain ⟨hm, he'⟩ := List.getElem?_eq_some_iff.1 he
  rw [List.take_succ_eq_append_getElem hm, he', List.map_append, List.map_singleton, inB_snoc]
  by_cases h : x = e.1
  · rw [if_pos h, h]; simp
  · rw [if_neg h]; simp [Ne.symm h]
set_option maxRecDepth 100000 in
set_option maxHeartbeats 2000000 in
theorem tally_any (W : World) (ao : Option Addr) (cap : Nat) (ps : List (Nat × List ByteArray)) (hcell : ∀ j p, ps[j]? = some p → ∃ g o, ao = some ⟨g, o, none⟩ ∧ W.cell? ⟨g, o + j, none⟩ = some (.pointer (some ⟨p.1, 0, none⟩))) (hfl : ∀ p ∈ ps, Flk W p.1 p.2) (hln : ps.length ≤ 2600000000000) (hsum : (ps.map (fun p => p.2.length)).sum ≤ 2600000000000) :
    Calls Tryz.prog 46 #[.slice ao ps.length cap] W fun e w' => e = .returned (.map (some W.heap.size)) ∧ ∃ n, Tal w' W.heap.size n (tal (ps.map (·.2))) ∧ Below W.heap.size W w' ∧ n ≤ 2600000000000 := by
  obtain ⟨W1, hW1⟩ : ∃ W1, (W.alloc (.map #[] 0)).alloc (.cells #[.map (some W.heap.size)] 80) = W1 := ⟨_, rfl⟩
  have hS1 : TlS W [] 0 [] W1 := by
    rw [← hW1]
    refine ⟨(Tal.made W).kept (Below.heap_alloc _ _ _ (by simp)), ?_, ((Below.refl _ W).alloc (Nat.le_refl _) _).alloc (by simp) _, List.nodup_nil, fun D h => by simp at h⟩
    have := heap_alloc_new (W.alloc (.map #[] 0)) (.cells #[.map (some W.heap.size)] 80)
    rwa [World.size_alloc] at this
  obtain ⟨T, hT⟩ : ∃ T, ps.length = T := ⟨_, rfl⟩
  rw [hT] at hln ⊢
  have HT := keep hT
  have HS1 := keep hS1
  have HC := keep hcell
  have HF := keep hfl
  have HSUM := keep hsum
  clear hT hS1 hcell hfl hsum
  have hmm : ∀ w, (Instr.makeMap 80 none).run Tryz.prog w = .ok (.map (some w.heap.size)) (w.alloc (.map #[] 0)) := fun w => rfl
  refine callsIn_wide (n := 9) |>.1 (callsIn_of_wp_marks Tryz.func46 rfl trivial (wpIn_wide.2 ?_) rfl)
  simp only [Tryz.ntmps46, List.size_toArray, List.length_cons, List.length_nil, Nat.reduceAdd, Nat.reduceSub, Array.replicate_succ, Array.replicate_zero, List.push_toArray, List.append_toArray, List.nil_append, List.cons_append]
  go_wp2
  refine wp_loop (fun a w' => ∃ (i : Nat) (n : Nat) (Ds : List Nat) (v5 v6 v11 v12 v13 v14 v15 v16 v17 v18 v19 v20 v21 v22 v23 : Value), i ≤ T ∧ a = { tmps := #[.slice ao T cap, undef, .map none, .pointer (some ⟨W.heap.size + 1, 0, none⟩), undef, v5, v6, .map (some W.heap.size), .slice ao T cap, .int .i64 T, .int .i64 i, v11, v12, v13, v14, v15, v16, v17, v18, v19, v20, v21, v22, v23, undef], defers := Ds.map fun D => { target := .collected D, args := #[] } } ∧ Kept (TlS W ((ps.take i).map (·.2)) n Ds w') ∧ Kept (n = ((ps.take i).map (fun p => p.2.length)).sum)) (fun a _ => T - (intOf (a.tmps.getD 10 undef)).toNat) ⟨0, 0, [], _, _, _, _, _, _, _, _, _, _, _, _, _, _, _, Nat.zero_le _, rfl, HS1, rfl⟩ ?_
  rintro a wr ⟨i, n, Ds, v5, v6, v11, v12, v13, v14, v15, v16, v17, v18, v19, v20, v21, v22, v23, hi, rfl, KS, KN⟩
  clear hmm
  by_cases hlt : i < T
  · have hltz : (i : Int) < (T : Int) := by omega
    have hi0 : (0 : Int) ≤ (i : Int) := by omega
    obtain ⟨p, hp⟩ : ∃ p, ps[i]? = some p := ⟨_, List.getElem?_eq_getElem (by rw [HT.out]; exact hlt)⟩
    obtain ⟨g, o, rfl, hc⟩ := HC.out i p hp
    obtain ⟨a1, a2, a3, a4, a5⟩ := KS.out
    have hcw : wr.cell? ⟨g, o + i, none⟩ = some (.pointer (some ⟨p.1, 0, none⟩)) := (a3.cell (p := ⟨g, o + i, none⟩) (World.block_lt_of_cell? _ _ hc)).trans hc
    obtain ⟨h, N, r, b, seed, s, hr, hN, hks⟩ := HF.out p (List.mem_of_getElem? hp)
    have hrw := hr.below a3
    have mD := dictionary_any hrw
    have hd := hrw.1
    have hpp : s.pos ≤ s.old.length := by
      by_cases hy : s.young = []
      · rw [hd.2.1.rest hy]; omega
      · have := hd.2.1.move hy; omega
    have hm0 : s.old.length ≤ 5400000000000 := by have := hd.2.2.2.2.1; omega
    have hm1 : s.young.length ≤ 5400000000000 := by have := hd.2.2.2.2.2; omega
    have hal : (Dc.all s).length ≤ 2600000000000 := by have := hd.2.2.2.1; omega
    have hnd : ((Dc.all s).map (fun e : Ent => e.1)).Nodup := all_nodup hd.2.1
    have hsz : ∀ e ∈ Dc.all s, e.1.size ≤ maxLen := hd.2.2.1
    have HP := keep hp
    have HKS := keep hks
    have HD := keep hd
    have HND := keep hnd
    have HSZ := keep hsz
    have A1 := keep a1
    have A2 := keep a2
    have A3 := keep a3
    have A4 := keep a4
    have A5 := keep a5
    clear hp hc hr hrw hks hd hnd hsz a1 a2 a3 a4 a5 KS
    obtain ⟨p1, p2⟩ := p
    dsimp only at hcw mD
    go_wp2_with fail
    refine mD.mono ?_
    rintro _ w' ⟨rfl, hw'⟩
    obtain rfl := hw'.symm
    clear mD hcw
    go_wp2_with fail
    refine (each_any _ _ (.inr ⟨b, rfl⟩)).mono ?_
    rintro _ w4 ⟨rfl, hw4⟩
    have hz4 : w4.heap.size = wr.heap.size + 1 := by rw [hw4]; simp
    have hb4 : Below wr.heap.size wr w4 := by rw [hw4]; exact (Below.refl _ wr).alloc (Nat.le_refl _) _
    have h4B : w4.heap[wr.heap.size]? = some (.cells #[.pointer (some ⟨b, 0, none⟩)] 52 (0, 0)) := by rw [hw4]; exact heap_alloc_new _ _
    have c4B : w4.cell? ⟨wr.heap.size, 0, none⟩ = some (.pointer (some ⟨b, 0, none⟩)) := by rw [cell_of_row _ _ _ _ _ _ h4B]; rfl
    have hsw : W.heap.size + 1 < wr.heap.size := (Array.getElem?_eq_some_iff.1 A2.out).1
    have hI0 : TlI W ((ps.take i).map (·.2)) n Ds (Dc.all s) (fun _ => False) 0 w4 := by
      refine ⟨⟨id, ?_⟩, ⟨id, (hb4.block _ hsw).trans A2.out⟩, A3.out.trans (hb4.mono A3.out.size), fun _ h => h.elim, fun D hD => ⟨id, (hb4.block _ (Array.getElem?_eq_some_iff.1 (A5.out D hD).2).1).trans (A5.out D hD).2⟩⟩
      have := A1.out.kept (hb4.block _ A1.out.lt)
      simpa [inB] using this
    have HI0 := keep hI0
    have C4B := keep c4B
    have HB4 := keep hb4
    clear hw4 h4B c4B hI0 hb4
    go_wp2
    refine (wpIn_wide (n := 9)).1 (range_own (α := Ent) (gf := 74) (lb := #[.pointer (some ⟨wr.heap.size, 0, none⟩)]) (by simp [Act.eval]) (enters_of Tryz.func74 (by kernel_rfl) rfl) (encs := eachV) (L := Dc.all s) (fun _ => rfl)
      (fun W1 hb => each_iter wr.heap.size b seed _ r s W1 (HD.out.1.below (HB4.out.trans (hb.mono HB4.out.size))) ((hb.cell (p := ⟨wr.heap.size, 0, none⟩) (by show wr.heap.size < w4.heap.size; omega)).trans C4B.out) hpp hm0 hm1 hal)
      (TlI W ((ps.take i).map (·.2)) n Ds (Dc.all s)) (fun _ _ _ _ => False) TlI.abd (fun _ _ _ _ _ _ h _ _ => h) HI0.out (fun _ _ _ _ => trivial) ?round ?done ?stop)
    case stop => exact fun _ _ _ _ _ _ h => h.elim
    case round =>
      intro M' l' m x W1 hI hx hl hrec hM'
      obtain ⟨e1, e2⟩ := x
      have HI := keep hI
      have HX := keep hx
      have HM' := keep hM'
      clear hI hx hM' HI0 hrec
      unfold eachV
      gi_wp2
      refine ⟨Mk.refl _ _, fun rl => ?_⟩
      obtain ⟨W2, hW2⟩ : ∃ W2, W1.putObj l' (.loop rl) = W2 := ⟨_, rfl⟩
      rw [hW2]
      have hI2 : TlI W ((ps.take i).map (·.2)) n Ds (Dc.all s) M' m W2 := TlI.abd _ _ _ _ _ HI.out (by rw [← hW2]; exact Sep.put _ _ hl) (Ext.refl _ _ _)
      obtain ⟨⟨j1, j1'⟩, ⟨j2, j2'⟩, j5, j6, j7⟩ := hI2
      have hml : m < (Dc.all s).length := (List.getElem?_eq_some_iff.1 HX.out).1
      have hes : e1.size ≤ maxLen := HSZ.out _ (List.mem_of_getElem? HX.out)
      have cS : W2.cell? ⟨W.heap.size + 1, 0, none⟩ = some (.map (some W.heap.size)) := by rw [cell_of_row _ _ _ _ _ _ j2']; rfl
      have hlk := j1'.look e1 hes
      have hnt := take_key HND.out HX.out
      rw [show inB e1 (((Dc.all s).take m).map (fun e : Ent => e.1)) = false from by
        cases hh : inB e1 (((Dc.all s).take m).map (fun e : Ent => e.1)) with
        | false => rfl
        | true => exact absurd ((inB_iff _ _).1 hh) hnt, if_neg (by simp), Nat.add_zero] at hlk
      have hn9 : n + m < maxLen := by
        have e1 := KN.out
        have e2 : n ≤ 2600000000000 := by
          rw [e1]
          refine Nat.le_trans ?_ HSUM.out
          exact sum_take _ _ _
        unfold maxLen
        omega
      have htl : tal ((ps.take i).map (·.2)) e1 ≤ 2600000000000 := by
        refine Nat.le_trans (tal_le _ _) ?_
        rw [List.length_map, List.length_take]
        omega
      obtain ⟨W3, hup, hT3, hg3⟩ := j1'.put e1 hes hn9 (tal ((ps.take i).map (·.2)) e1 + 1) (by omega) (by omega)
      have hwr : IntKind.i64.wrap (((tal ((ps.take i).map (·.2)) e1 : Nat) : Int) + 1) = ((tal ((ps.take i).map (·.2)) e1 + 1 : Nat) : Int) := by rw [IntKind.wrap_i64]; omega
      have fin : Kept (rdPost (TlI W ((ps.take i).map (·.2)) n Ds (Dc.all s)) (fun _ _ _ _ => False) M' (m + 1) W2 .normal { tmps := #[], defers := [] } W3) := by
        have same : ∀ k, k < W2.heap.size → k ≠ W.heap.size → W3.heap[k]? = W2.heap[k]? := fun k hk hn => hg3.block k hk (fun e => hn (Option.some.inj e))
        refine ⟨⟨hg3.size, fun k hk => ?_⟩, ⟨j1, ?_⟩, ⟨j2, (same _ (Array.getElem?_eq_some_iff.1 j2').1 (by omega)).trans j2'⟩, ?_, j6, fun D hD => ⟨(j7 D hD).1, ?_⟩⟩
        · have hkb := HM'.out k hk
          have : W2.heap.size = W1.heap.size := by rw [← hW2]; simp
          exact same k (by omega) (fun e => j1 (e ▸ hk))
        · have := hT3
          rw [take_count HX.out] at this
          exact this
        · exact j5.trans ((Below.refl _ W2).grown hg3 j5.size (fun k e => by cases e; exact Nat.le_refl _))
        · have hD' := (A5.out D hD).1
          exact (same D (Array.getElem?_eq_some_iff.1 (j7 D hD).2).1 (by omega)).trans (j7 D hD).2
      obtain ⟨v, hv⟩ : ∃ v, tal ((ps.take i).map (·.2)) e1 = v := ⟨_, rfl⟩
      rw [hv] at hlk hup hwr
      rw [show ((v + 1 : Nat) : Int) = (v : Int) + 1 from by omega] at hup hwr
      clear hT3 hg3 j1 j1' j2 j2' j5 j6 j7 hW2 hnt hv htl hn9 hes hml HI HX HM' A5 A4 A1 A2 A3
      gi_wp2
      exact fin.out
    case done =>
      intro M' D W5 hI hD hDk hM'
      obtain ⟨⟨j1, j1'⟩, ⟨j2, j2'⟩, j5, j6, j7⟩ := hI
      rw [List.take_length] at j1'
      have hps : ((ps.take (i + 1)).map (·.2)) = (ps.take i).map (·.2) ++ [(Dc.all s).map (fun e : Ent => e.1)] := by
        obtain ⟨hm, he⟩ := List.getElem?_eq_some_iff.1 HP.out
        rw [List.take_succ_eq_append_getElem hm, he, List.map_append, List.map_singleton]
        show _ ++ [p2] = _
        rw [show p2 = kys s from HKS.out]
        rfl
      have hpn : ((ps.take (i + 1)).map (fun p : Nat × List ByteArray => p.2.length)).sum = n + (Dc.all s).length := by
        obtain ⟨hm, he⟩ := List.getElem?_eq_some_iff.1 HP.out
        rw [List.take_succ_eq_append_getElem hm, he, List.map_append, List.map_singleton, List.sum_append, ← KN.out]
        show n + [p2.length].sum = _
        rw [show p2 = kys s from HKS.out]
        simp [kys]
      have KS5 : Kept (TlS W ((ps.take (i + 1)).map (·.2)) (n + (Dc.all s).length) (D :: Ds) W5) := by
        refine ⟨?_, j2', j5, List.nodup_cons.2 ⟨fun h => (j7 D h).1 hD, A4.out⟩, fun D' hD' => ?_⟩
        · rw [hps]
          rw [show tal ((ps.take i).map (·.2) ++ [(Dc.all s).map (fun e : Ent => e.1)]) = fun k => tal ((ps.take i).map (·.2)) k + if inB k ((Dc.all s).map (fun e : Ent => e.1)) then 1 else 0 from funext fun k => tal_snoc _ _ _]
          exact j1'
        · rcases List.mem_cons.1 hD' with rfl | h
          · have h1 := hM' _ hD
            exact ⟨by omega, hDk⟩
          · exact ⟨(A5.out D' h).1, (j7 D' h).2⟩
      have hwi : IntKind.i64.wrap ((i : Int) + 1) = ((i + 1 : Nat) : Int) := by rw [IntKind.wrap_i64]; omega
      clear j1 j1' j2 j2' j5 j6 j7 hM' hDk hD HI0 hps
      go_wp2
      exact ⟨⟨i + 1, _, D :: Ds, _, _, _, _, _, _, _, _, _, _, _, _, _, _, _, by omega, rfl, KS5, hpn.symm⟩, by simp [intOf]; omega⟩
  · have hltz : ¬ (i : Int) < (T : Int) := by omega
    obtain rfl : i = T := by omega
    obtain ⟨a1, a2, a3, a4, a5⟩ := KS.out
    have c2 : wr.cell? ⟨W.heap.size + 1, 0, none⟩ = some (.map (some W.heap.size)) := by rw [cell_of_row _ _ _ _ _ _ a2]; rfl
    have A1 := keep a1
    have A3 := keep a3
    have A4 := keep a4
    have A5 := keep a5
    clear a1 a2 a3 a4 a5 KS
    go_wp2
    refine leave_marks Ds wr A4.out (fun D hD => (A5.out D hD).2) (fun W' hs => ?_)
    refine ⟨_, results_tmp rfl _ _ _, rfl, n, ?_, ?_, ?_⟩
    · have := A1.out.kept (hs.2.2 _ A1.out.lt (fun h => by have := (A5.out _ h).1; omega))
      rwa [List.take_of_length_le (by rw [HT.out]; exact Nat.le_refl _)] at this
    · exact A3.out.trans (hs.below A3.out.size (fun k hk => by have := (A5.out k hk).1; omega))
    · rw [KN.out, List.take_of_length_le (by rw [HT.out]; exact Nat.le_refl _)]
      exact HSUM.out
end Go.Proofs.YtlfpkbjiofelkaaGreat
