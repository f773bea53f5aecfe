/-
  Contracts over this program: the first byte of a reply; numbers; makers of one reply.
-/
import Derived.Test.YtoalnfkjpdgbiaaDoorRpBids
import Derived.Test.YtoalnfkjpdgbiaaDoorRpHead
import Derived.Test.YtoalnfkjpdgbiaaDoorInts
import Derived.Laws.ResultCell
/-
  Contracts over this program: a source of bytes, what take and kind read of it; and what a line is.
-/
namespace Go.Proofs.YtoalnfkjpdgbiaaDoor
open Go.RowKit
set_option linter.unusedVariables false
/-- a source in block p: what was not read yet, in blocks ahead of it -/
def So (w : World) (p : Nat) (x : List UInt8) : Prop := ∃ v, w.heap[p]? = some (.cells #[v] 63 (0, 0)) ∧ Bs (· < p) w v x
/-- block p, and new ones, alone have turned -/
abbrev Gp (p : Nat) (w w' : World) : Prop := w.grownBy w' (some p)
theorem Gp.refl (p : Nat) (w : World) : Gp p w w := ⟨rfl, rfl, rfl, Nat.le_refl _, fun _ _ _ => rfl⟩
theorem Gp.of {p : Nat} {w w' : World} (h : Below w.heap.size w w') : Gp p w w' := ⟨h.os, h.tape, h.output, h.size, fun k hk _ => h.block k hk⟩
theorem Gp.trans {p : Nat} {w w1 w2 : World} (h : Gp p w w1) (g : Gp p w1 w2) : Gp p w w2 :=
  ⟨g.os.trans h.os, g.tape.trans h.tape, g.output.trans h.output, Nat.le_trans h.size g.size, fun k hk hne => (g.block k (Nat.lt_of_lt_of_le hk h.size) hne).trans (h.block k hk hne)⟩
theorem Gp.low {p : Nat} {w w' : World} (h : Gp p w w') (hp : p ≤ w.heap.size) {b : Nat} (hb : b < p) : w'.heap[b]? = w.heap[b]? := h.block b (by omega) (fun e => by injection e; omega)
theorem Gp.set {p : Nat} {w : World} (hp : p < w.heap.size) (i : Nat) (u : Value) : Gp p w (w.setCell ⟨p, i, none⟩ u) :=
  ⟨rfl, rfl, rfl, by simp [World.setCell], fun k hk hne => Below.heap_setCell _ _ _ _ (fun e => hne (by rw [e]))⟩
theorem So.lt {w : World} {p : Nat} {x : List UInt8} (h : So w p x) : p < w.heap.size := by
  obtain ⟨v, h1, _⟩ := h
  exact (Array.getElem?_eq_some_iff.1 h1).1
theorem So.later {w w' : World} {p : Nat} {x : List UInt8} (h : So w p x) (hb : Below w.heap.size w w') : So w' p x := by
  have hl := h.lt
  obtain ⟨v, h1, h2⟩ := h
  exact ⟨v, (hb.block p hl).trans h1, h2.mono (fun _ h => h) (fun b hb' => hb.block b (by omega))⟩
theorem Vars.gp {w w' : World} {p : Nat} (h : Vars w) (hg : Gp p w w') (hp : p ≤ w.heap.size) (h3 : 3 ≤ p) : Vars w' := by
  obtain ⟨⟨t1, t2⟩, m, hm⟩ := h
  have key : ∀ (b o : Nat) (v : Value), b < 3 → w.cell? ⟨b, o, none⟩ = some v → w'.cell? ⟨b, o, none⟩ = some v := fun b o v hb hv => (World.cell?_of_block (hg.low hp (b := b) (Nat.lt_of_lt_of_le hb h3))).trans hv
  exact ⟨⟨fun c hc => key _ _ _ (by decide) (t1 c hc), fun i hi => ⟨key _ _ _ (by decide) (t2 i hi).1, key _ _ _ (by decide) (t2 i hi).2⟩⟩, m, key _ _ _ (by decide) hm⟩
/-- a new value in the source's one cell -/
theorem So.set {w : World} {p : Nat} {x y : List UInt8} (h : So w p x) {v : Value} (hv : Bs (· < p) w v y) : So (w.setCell ⟨p, 0, none⟩ v) p y := by
  have hl := h.lt
  obtain ⟨v0, h1, h2⟩ := h
  refine ⟨v, ?_, hv.mono (fun _ h => h) (fun b hb => Below.heap_setCell _ _ _ _ (by show b ≠ p; omega))⟩
  simp only [World.setCell, Array.getElem?_modify]
  simp [h1]
theorem Bs.drop {P : Nat → Prop} {w : World} {g o c : Nat} {l : List UInt8} (hc : l.length ≤ c) (hP : P g) (hl : ∀ j x, l[j]? = some x → w.cell? ⟨g, o + j, none⟩ = some (.int .u8 (x.toNat : Int))) (k : Nat) (hk : k ≤ l.length) :
    Bs P w (.slice (some (if c = k then ⟨g, o, none⟩ else ⟨g, o + k, none⟩)) (l.length - k) (c - k)) (l.drop k) := by
  refine ⟨_, c - k, by rw [List.length_drop], by rw [List.length_drop]; omega, ?_⟩
  by_cases e : l.drop k = []
  · exact .inl e
  · have hlt : k < l.length := by
      apply Decidable.byContradiction
      intro h
      exact e (List.drop_of_length_le (by omega))
    rw [if_neg (by omega)]
    refine .inr ⟨g, o + k, rfl, hP, fun j x hx => ?_⟩
    rw [List.getElem?_drop] at hx
    rw [Nat.add_assoc]
    exact hl _ _ hx
theorem slice_to {P : Program} (w : World) (t e : TypeId) (ht : P.underlying t = some (.slice e)) (i : TypeInfo) (hi : P.info? e = some i) (h1 : i.size = 1) (g o n c k : Nat) (hk : k ≤ n) (hn : n ≤ c) :
    (Instr.slice t (.slice (some ⟨g, o, none⟩) n c) none (some (.int .i64 (k : Int))) none).run P w = .ok (.slice (some ⟨g, o, none⟩) k c) w := by
  have hz : (Go.sizeOf e).run P w = .ok 1 w := by simp [Go.sizeOf, typeInfo, hi, h1]
  have hb : ∀ (x y : Nat) code, x ≤ y → (Instr.sliceBound (.int .i64 (x : Int)) y code).run P w = .ok x w := fun x y code hxy => by
    have := run_sliceBound (P := P) (w := w) .i64 (x : Int) y code (by omega) (by omega)
    simpa using this
  simp (disch := omega) only [Instr.slice, Instr.sliceBounds, run_underlying ht, Sem.run_bind, Sem.run_pure, Result.andThen_ok, hb, hz]
  by_cases e : c = 0
  · simp [e]
  · rw [if_neg e]
    simp only [Option.map_some, add_at, Nat.mul_one, Nat.sub_zero, Nat.add_zero]
/-- bytes as a text -/
theorem bytes_text {w : World} {g o k c : Nat} {l : List UInt8} (hk : k ≤ l.length) (hl : ∀ j x, l[j]? = some x → w.cell? ⟨g, o + j, none⟩ = some (.int .u8 (x.toNat : Int))) :
    (convert 29 9 (.slice (some ⟨g, o, none⟩) k c)).run Tryd.prog w = .ok (.string (Rp.ofL (l.take k))) w := by
  have hlen : (l.take k).length = k := by rw [List.length_take]; omega
  have := run_convert_bytes_back (P := Tryd.prog) w 29 9 5 ⟨g, o, none⟩ c (l.take k) Tryd.underlying29 Tryd.underlying5 Tryd.underlying9 (fun j hj => by
    rw [add_at]
    exact hl j _ (by
      have h1 : (l.take k)[j]? = some ((l.take k)[j]) := List.getElem?_eq_getElem hj
      rw [List.getElem?_take] at h1
      split at h1
      · exact h1
      · cases h1))
  rw [hlen] at this
  exact this
set_option maxRecDepth 100000 in
set_option maxHeartbeats 1000000 in
theorem take_any (w : World) (p n : Nat) (x : List UInt8) (h : So w p x) (hn : n + 2 ≤ x.length) (hm : x.length ≤ 140737488355328) :
    Calls Tryd.prog 70 #[.pointer (some ⟨p, 0, none⟩), .int .i64 n] w fun e w' => e = .returned (.string (Rp.ofL (x.take n))) ∧ So w' p (x.drop (n + 2)) ∧ Gp p w w' := by
  have hlt := h.lt
  have h' := h
  obtain ⟨v, h1, ao, c, rfl, hc, h3⟩ := h'
  obtain ⟨g, o, rfl, hg, hl⟩ := h3.resolve_left (fun e => by rw [e] at hn; simp at hn)
  obtain ⟨i0, hi0, hz0, hz1, hz2⟩ := parts_of info_u8'
  have st := fun w => slice_to (P := Tryd.prog) w 29 5 Tryd.underlying29 i0 hi0 hz1 g o x.length c n (by omega) hc
  have sf := fun w => slice_from (P := Tryd.prog) w 29 5 Tryd.underlying29 i0 hi0 hz1 g o x.length c (n + 2) hn hc
  have cv := bytes_text (w := w) (g := g) (o := o) (k := n) (c := c) (by omega) hl
  have hd := Bs.drop (P := (· < p)) (w := w) (g := g) (o := o) (c := c) hc hg hl (n + 2) hn
  obtain ⟨A2, hA2⟩ : ∃ A2 : Addr, A2 = (if c = n + 2 then ⟨g, o, none⟩ else ⟨g, o + (n + 2), none⟩) := ⟨_, rfl⟩
  have e2 : ((n + 2 : Nat) : Int) = (n : Int) + 2 := rfl
  simp only [← hA2] at sf hd
  simp only [e2] at sf
  clear e2
  have c0 : w.cell? ⟨p, 0, none⟩ = some (.slice (some ⟨g, o, none⟩) x.length c) := by rw [cell_of_row _ _ _ _ _ _ h1]; rfl
  have f0 : w.frozen? ⟨p, 0, none⟩ = false := by simp [World.frozen?, h1]
  have nw : wrap64 ((n : Int) + 2) = (n : Int) + 2 := by unfold wrap64; omega
  have nw2 : IntKind.i64.wrap ((n : Int) + 2) = (n : Int) + 2 := by rw [IntKind.wrap_i64]; omega
  have SO := keep (h.set hd)
  have GP := keep (Gp.set hlt 0 (.slice (some A2) (x.length - (n + 2)) (c - (n + 2))))
  generalize x.length = xl at *
  clear h h1 hl hi0 hz0 hz1 hz2 hd hA2 hlt hg hc hn hm h3
  go_enter Tryd.func70, Tryd.ntmps70
  go_wp2
  go_ret
  exact ⟨rfl, SO.out, GP.out⟩
end Go.Proofs.YtoalnfkjpdgbiaaDoor

namespace Go.Proofs.YtoalnfkjpdgbiaaDoor
open Go.RowKit
set_option linter.unusedVariables false
theorem ib_mark (x : UInt8) : Lib.indexByte [43, 45, 58, 36, 36, 42, 42] x = Rp.kindF x - 1 := by
  unfold Rp.kindF
  by_cases h1 : x = 43
  · subst h1; decide
  by_cases h2 : x = 45
  · subst h2; decide
  by_cases h3 : x = 58
  · subst h3; decide
  by_cases h4 : x = 36
  · subst h4; decide
  by_cases h5 : x = 42
  · subst h5; decide
  rw [if_neg h1, if_neg h2, if_neg h3, if_neg h4, if_neg h5]
  have e1 : ¬ 43 = x := fun e => h1 e.symm
  have e2 : ¬ 45 = x := fun e => h2 e.symm
  have e3 : ¬ 58 = x := fun e => h3 e.symm
  have e4 : ¬ 36 = x := fun e => h4 e.symm
  have e5 : ¬ 42 = x := fun e => h5 e.symm
  simp [Lib.indexByte, e1, e2, e3, e4, e5]
theorem kindF_le (x : UInt8) : 0 ≤ Rp.kindF x ∧ Rp.kindF x ≤ 6 := by
  unfold Rp.kindF
  split
  · omega
  split
  · omega
  split
  · omega
  split
  · omega
  split <;> omega
theorem kind_nil (w : World) (p : Nat) (h : So w p []) :
    Calls Tryd.prog 58 #[.pointer (some ⟨p, 0, none⟩)] w fun e w' => e = .returned (.tuple #[.int .i64 0, .int .i64 5]) ∧ w' = w := by
  obtain ⟨v, h1, ao, c, rfl, hc, h3⟩ := h
  have c0 : w.cell? ⟨p, 0, none⟩ = some (.slice ao 0 c) := by rw [cell_of_row _ _ _ _ _ _ h1]; rfl
  clear h1 h3 hc
  go_enter Tryd.func58, Tryd.ntmps58
  go_wp2
  go_ret2
  exact ⟨rfl, rfl⟩
set_option maxRecDepth 100000 in
set_option maxHeartbeats 1000000 in
theorem kind_bad (w : World) (p : Nat) (x : UInt8) (r : List UInt8) (h : So w p (x :: r)) (hk : Rp.kindF x = 0) (hm : r.length < 140737488355328) :
    Calls Tryd.prog 58 #[.pointer (some ⟨p, 0, none⟩)] w fun e w' => e = .returned (.tuple #[.int .i64 0, .int .i64 160]) ∧ w' = w := by
  obtain ⟨v, h1, ao, c, rfl, hc, h3⟩ := h
  obtain ⟨g, o, rfl, hg, hl⟩ := h3.resolve_left (by simp)
  have c0 : w.cell? ⟨p, 0, none⟩ = some (.slice (some ⟨g, o, none⟩) (x :: r).length c) := by rw [cell_of_row _ _ _ _ _ _ h1]; rfl
  have c1 : w.cell? ⟨g, o, none⟩ = some (.int .u8 (x.toNat : Int)) := hl 0 x rfl
  have z0 : (((x :: r).length : Int) == 0) = false := beq_eq_false_iff_ne.2 (by simp; omega)
  have z1 : 0 < (x :: r).length := by simp
  have hi := ib_mark x
  rw [hk] at hi
  have ib := Tryd.strings_IndexByte ⟨#[43, 45, 58, 36, 36, 42, 42]⟩ (x.toNat : Int) w
  rw [show ((x.toNat : Int)).toNat.toUInt8 = x by simp, show ((⟨#[43, 45, 58, 36, 36, 42, 42]⟩ : ByteArray)).data.toList = [43, 45, 58, 36, 36, 42, 42] from rfl, hi] at ib
  have IB := keep ib
  generalize (x :: r).length = n at *
  clear h1 h3 hc hl hi hk hg ib hm
  go_enter Tryd.func58, Tryd.ntmps58
  go_wp2_with fail
  refine IB.out.mono ?_
  rintro e w' ⟨rfl, rfl⟩
  go_wp2
  go_ret2
  exact ⟨rfl, rfl⟩
set_option maxRecDepth 100000 in
set_option maxHeartbeats 1000000 in
theorem kind_ok (w : World) (p : Nat) (x : UInt8) (r : List UInt8) (h : So w p (x :: r)) (hk : Rp.kindF x ≠ 0) (hm : r.length < 140737488355328) :
    Calls Tryd.prog 58 #[.pointer (some ⟨p, 0, none⟩)] w fun e w' => e = .returned (.tuple #[.int .i64 (Rp.kindF x), .int .i64 0]) ∧ So w' p r ∧ Gp p w w' := by
  have hlt := h.lt
  have h' := h
  obtain ⟨v, h1, ao, c, rfl, hc, h3⟩ := h'
  obtain ⟨g, o, rfl, hg, hl⟩ := h3.resolve_left (by simp)
  have c0 : w.cell? ⟨p, 0, none⟩ = some (.slice (some ⟨g, o, none⟩) (x :: r).length c) := by rw [cell_of_row _ _ _ _ _ _ h1]; rfl
  have f0 : w.frozen? ⟨p, 0, none⟩ = false := by simp [World.frozen?, h1]
  have c1 : w.cell? ⟨g, o, none⟩ = some (.int .u8 (x.toNat : Int)) := hl 0 x rfl
  have z0 : (((x :: r).length : Int) == 0) = false := beq_eq_false_iff_ne.2 (by simp; omega)
  have z1 : 0 < (x :: r).length := by simp
  have hi := ib_mark x
  have kl := kindF_le x
  obtain ⟨i0, hi0, hz0, hz1, hz2⟩ := parts_of info_u8'
  have sf := fun w => slice_from (P := Tryd.prog) w 29 5 Tryd.underlying29 i0 hi0 hz1 g o (x :: r).length c 1 z1 hc
  have hd := Bs.drop (P := (· < p)) (w := w) (g := g) (o := o) (c := c) hc hg hl 1 z1
  obtain ⟨A2, hA2⟩ : ∃ A2 : Addr, A2 = (if c = 1 then ⟨g, o, none⟩ else ⟨g, o + 1, none⟩) := ⟨_, rfl⟩
  simp only [← hA2] at sf hd
  rw [show ((1 : Nat) : Int) = 1 from rfl] at sf
  rw [show (x :: r).drop 1 = r from rfl] at hd
  have SO := keep (h.set hd)
  have GP := keep (Gp.set hlt 0 (.slice (some A2) ((x :: r).length - 1) (c - 1)))
  have ib := Tryd.strings_IndexByte ⟨#[43, 45, 58, 36, 36, 42, 42]⟩ (x.toNat : Int) w
  rw [show ((x.toNat : Int)).toNat.toUInt8 = x by simp, show ((⟨#[43, 45, 58, 36, 36, 42, 42]⟩ : ByteArray)).data.toList = [43, 45, 58, 36, 36, 42, 42] from rfl, hi] at ib
  have IB := keep ib
  obtain ⟨k, hk'⟩ : ∃ k, k = Rp.kindF x := ⟨_, rfl⟩
  rw [← hk'] at IB hk kl ⊢
  have k1 : ¬ k - 1 < 0 := by omega
  have k2 : wrap64 k = k := by unfold wrap64; omega
  have k3 : IntKind.i64.wrap (k - 1 + 1) = k := by rw [IntKind.wrap_i64]; omega
  clear hk'
  generalize (x :: r).length = n at *
  clear h1 h3 hc hl hi hk hg ib hm kl hd hA2 h hi0 hz0 hz1 hz2 hlt
  go_enter Tryd.func58, Tryd.ntmps58
  go_wp2_with fail
  refine IB.out.mono ?_
  rintro e w' ⟨rfl, rfl⟩
  go_wp2
  go_ret2
  exact ⟨by show Ending.returned (.tuple #[.int .i64 (wrap64 k), .int .i64 0]) = _; rw [k2], SO.out, GP.out⟩
theorem size_rp : (Tryd.prog.info? 25).map (·.size) = some 4 := by kernel_rfl
theorem res_rp1 {fn : Func} {p : Tmp} (h : fn.results = #[.cell p 25]) (tmps : Array Value) (w : World) (b : Nat) (a0 a1 a2 a3 : Value) (hp : tmps.getD p undef = .pointer (some ⟨b, 0, none⟩)) (hb : Box w b a0 a1 a2 a3) :
    (results fn tmps).run Tryd.prog w = .ok (.agg #[a0, a1, a2, a3]) w := results_cell_row h tmps w b _ _ _ _ hp hb Tryd.underlying25 rfl size_rp
theorem res_rp2 {fn : Func} {p u : Tmp} (h : fn.results = #[.cell p 25, .tmp u]) (tmps : Array Value) (w : World) (b : Nat) (a0 a1 a2 a3 : Value) (hp : tmps.getD p undef = .pointer (some ⟨b, 0, none⟩)) (hb : Box w b a0 a1 a2 a3) :
    (results fn tmps).run Tryd.prog w = .ok (.tuple #[.agg #[a0, a1, a2, a3], tmps.getD u undef]) w := by
  rw [results_cell_tmp h, hp]
  simp only [asAddr, Sem.run_pure, Result.andThen_ok, run_loadVar_row w b _ _ _ _ _ hb Tryd.underlying25 rfl size_rp]
theorem null_any (w : World) :
    Calls Tryd.prog 31 #[] w fun e w' => e = .returned (.agg #[.int .i64 5, .string .empty, .int .i64 0, .slice none 0 0]) ∧ Below w.heap.size w w' := by
  go_enter Tryd.func31, Tryd.ntmps31
  go_wp2
  (try simp only [Exit.inBlock, Exit.then])
  refine bodyPost_ret (res_rp1 rfl _ _ _ _ _ _ _ rfl (Box.new _ _ _ _ _)) rfl ?_
  exact ⟨rfl, (Below.refl _ _).alloc (Nat.le_refl _) _⟩
theorem int1_any (n : Int) (w : World) :
    Calls Tryd.prog 27 #[.int .i64 n] w fun e w' => e = .returned (.agg #[.int .i64 3, .string .empty, .int .i64 n, .slice none 0 0]) ∧ Below w.heap.size w w' := by
  go_enter Tryd.func27, Tryd.ntmps27
  go_wp2
  (try simp only [Exit.inBlock, Exit.then])
  refine bodyPost_ret (res_rp1 rfl _ _ _ _ _ _ _ rfl (Box.new _ _ _ _ _)) rfl ?_
  exact ⟨rfl, (Below.refl _ _).alloc (Nat.le_refl _) _⟩
theorem bulk1_any (s : ByteArray) (w : World) :
    Calls Tryd.prog 29 #[.string s] w fun e w' => e = .returned (.agg #[.int .i64 4, .string s, .int .i64 0, .slice none 0 0]) ∧ Below w.heap.size w w' := by
  go_enter Tryd.func29, Tryd.ntmps29
  go_wp2
  (try simp only [Exit.inBlock, Exit.then])
  refine bodyPost_ret (res_rp1 rfl _ _ _ _ _ _ _ rfl (Box.new _ _ _ _ _)) rfl ?_
  exact ⟨rfl, (Below.refl _ _).alloc (Nat.le_refl _) _⟩
end Go.Proofs.YtoalnfkjpdgbiaaDoor
