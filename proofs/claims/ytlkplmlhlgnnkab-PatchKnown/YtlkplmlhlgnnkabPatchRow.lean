/-
  Rows of bytes in the memory: a text as a row, a row filled up with bytes 0, a byte set, bytes laid over, and back to a text.
-/
import Derived.Test.YtlkplmlhlgnnkabPatchMath
import Derived.Below
import Derived.Laws.IdiomCopy
import Derived.Laws.IdiomStrings
namespace Go.Proofs.Ytlkplmlhlgnnkab
open Go.RowKit
/-- block b begins with the bytes l, and they may be written -/
def Br (w : World) (b : Nat) (l : List UInt8) : Prop := b < w.heap.size ∧ ∀ j (h : j < l.length), w.cell? ⟨b, j, none⟩ = some (.int .u8 (l[j].toNat : Int)) ∧ w.frozen? ⟨b, j, none⟩ = false
theorem add_off (b j : Nat) : (⟨b, 0, none⟩ : Addr).add j = ⟨b, j, none⟩ := by unfold Addr.add; split <;> simp_all
theorem Br.drew {w : World} {b : Nat} {l : List UInt8} (h : Br w b l) : Br w.drew b l := h
theorem Br.set {w : World} {b : Nat} {l : List UInt8} (h : Br w b l) (k : Nat) (z : UInt8) : Br (w.setCell ⟨b, k, none⟩ (.int .u8 (z.toNat : Int))) b (l.set k z) := by
  refine ⟨by simpa [World.setCell] using h.1, fun j hj => ?_⟩
  have hj' : j < l.length := by simpa using hj
  obtain ⟨h1, h2⟩ := h.2 j hj'
  refine ⟨?_, by rw [World.frozen?_setCell]; exact h2⟩
  by_cases e : k = j
  · subst e
    rw [List.getElem_set_self]
    exact World.cell?_setCell_same _ _ _ h1
  · rw [List.getElem_set_ne e, World.cell?_setCell_other _ _ _ _ (by simp; omega)]
    exact h1
theorem Br.back {w : World} {b : Nat} {l : List UInt8} (h : Br w b l) (cap : Nat) :
    (convert 33 9 (.slice (some ⟨b, 0, none⟩) l.length cap)).run Try.prog w = .ok (.string ⟨l.toArray⟩) w :=
  run_convert_bytes_back (P := Try.prog) w 33 9 5 ⟨b, 0, none⟩ cap l Try.underlying33 Try.underlying5 Try.underlying9 fun j hj => by
    rw [add_off]; exact (h.2 j hj).1
def lay (l : List UInt8) (o : Nat) : List UInt8 → List UInt8
  | [] => l
  | v :: r => lay (l.set o v) (o + 1) r
theorem lay_len : ∀ (v l : List UInt8) (o : Nat), (lay l o v).length = l.length
  | [], _, _ => rfl
  | x :: r, l, o => by rw [lay, lay_len r]; simp
theorem lay_at : ∀ (v l : List UInt8) (o i : Nat), o + v.length ≤ l.length → (lay l o v).getD i 0 = if o ≤ i ∧ i < o + v.length then v.getD (i - o) 0 else l.getD i 0
  | [], l, o, i, _ => by simp [lay]; omega
  | x :: r, l, o, i, h => by
    have h' : o + 1 + r.length ≤ l.length := by simp only [List.length_cons] at h; omega
    rw [lay, lay_at r (l.set o x) (o + 1) i (by simpa using h')]
    simp only [List.length_cons, List.getD_eq_getElem?_getD, List.getElem?_set]
    by_cases e : o = i
    · subst e
      rw [if_neg (by omega : ¬ (o + 1 ≤ o ∧ o < o + 1 + r.length)), if_pos rfl, if_pos (by omega), if_pos (by omega), Nat.sub_self]
      simp
    · rw [if_neg e]
      by_cases g : o + 1 ≤ i ∧ i < o + 1 + r.length
      · rw [if_pos g, if_pos (by omega), show i - o = i - (o + 1) + 1 by omega]
        simp
      · rw [if_neg g, if_neg (by omega)]
theorem lay_over (l : List UInt8) (a : Nat) (v : List UInt8) : lay (Pt.fill l (a + v.length)) a v = Pt.over l a v := by
  have hf := Pt.fill_len l (a + v.length)
  refine Pt.ext_getD (by rw [lay_len, Pt.over_len, hf]) fun i _ => ?_
  rw [lay_at _ _ _ _ (by omega), Pt.over_at, Pt.fill_at]
def bcells (l : List UInt8) : List Value := l.map fun x => Value.int .u8 (x.toNat : Int)
theorem Br.cells {b : Nat} : ∀ (v : List UInt8) {w : World} {l : List UInt8} (o : Nat), Br w b l → Br (w.setCells b o (bcells v)) b (lay l o v)
  | [], _, _, _, h => h
  | x :: r, _, _, o, h => Br.cells r (o + 1) (h.set o x)
theorem setCells_below {B b : Nat} {a : World} (hb : B ≤ b) : ∀ (vs : List Value) (o : Nat) (w : World), Below B a w → Below B a (w.setCells b o vs)
  | [], _, _, h => h
  | v :: r, o, w, h => setCells_below hb r (o + 1) _ (h.setCell (by exact hb) v)
theorem Br.copy {w : World} {b : Nat} {l : List UInt8} (h : Br w b l) (o cap ty : Nat) (s : ByteArray) (hle : o + s.size ≤ l.length) :
    (Builtin.copy_ #[33, 9] ty #[.slice (some ⟨b, o, none⟩) (l.length - o) cap, .string s]).run Try.prog w = .ok (goInt s.size) (w.setCells b o (bcells s.data.toList)) := by
  have hmin : Nat.min s.size (l.length - o) = s.size := Nat.min_eq_left (by omega)
  have hl : (bcells s.data.toList).length = s.size := by unfold bcells; rw [List.length_map]; exact Array.length_toList
  have hst := run_storeCells_cells (P := Try.prog) b o (bcells s.data.toList) 0 w (by
      intro j hj
      rw [hl] at hj
      rw [Nat.add_zero, (h.2 (o + j) (by omega)).1]; rfl) (by
      intro j hj
      rw [hl] at hj
      rw [Nat.add_zero]; exact (h.2 (o + j) (by omega)).2) (by
    intro v hv
    obtain ⟨x, _, rfl⟩ := List.mem_map.1 hv
    rfl)
  have hz : ∀ w, (Go.sizeOf 5).run Try.prog w = .ok 1 w := fun w => by kernel_rfl
  simp [Builtin.copy_, run_underlying Try.underlying33, Builtin.lenOf, Builtin.firstCells, hz, hmin]
  rw [List.take_of_length_le (by rw [List.length_map]; exact Nat.le_of_eq Array.length_toList)]
  show Result.andThen ((storeCells ⟨b, o, none⟩ (bcells s.data.toList) 0).run Try.prog w) _ = _
  rw [hst]
  rfl
theorem zero_rep (n : Nat) : (Builtin.zeroCells #[.int .u8 0] n) = Array.replicate n (.int .u8 0) := by
  unfold Builtin.zeroCells
  apply Array.ext
  · simp
  · intro i h1 h2
    simp [Nat.mod_one]
theorem bcells_rep (m : Nat) : bcells (List.replicate m 0) = List.replicate m (.int .u8 0) := by simp [bcells]
theorem lay_rep (l : List UInt8) (m : Nat) : lay (l ++ List.replicate m 0) l.length (List.replicate m 0) = l ++ List.replicate m 0 := by
  refine Pt.ext_getD (lay_len _ _ _) fun i _ => ?_
  rw [lay_at _ _ _ _ (by simp)]
  split
  · simp only [List.getD_eq_getElem?_getD, List.length_replicate] at *
    rw [List.getElem?_append_right (by omega)]
  · rfl
theorem Br.made (w : World) (C : Array Value) (fr : Nat × Nat) (l : List UInt8) (h : ∀ j (hj : j < l.length), C[j]? = some (.int .u8 (l[j].toNat : Int))) (hf : ∀ j, j < l.length → ¬ (fr.1 ≤ j ∧ j < fr.2)) :
    Br (w.alloc (.cells C 5 fr)) w.heap.size l := by
  refine ⟨by show _ < (w.heap.push _).size; simp, fun j hj => ⟨by rw [World.cell?_alloc_mark]; exact h j hj, ?_⟩⟩
  obtain ⟨lo, hi⟩ := fr
  rw [World.frozen?_alloc_mark]
  have := hf j hj
  simp only [Bool.and_eq_false_imp, decide_eq_true_eq, decide_eq_false_iff_not]
  omega
theorem brow_size (s : ByteArray) (cap : Nat) (h : s.size ≤ cap) : (bytesRow s cap).size = cap := by
  have : s.data.size = s.size := rfl
  simp [bytesRow]; omega
theorem brow_zero (s : ByteArray) (cap j : Nat) (h : s.size ≤ j) (hj : j < cap) : (bytesRow s cap)[j]? = some (.int .u8 0) := by
  unfold bytesRow
  have : s.data.size = s.size := rfl
  rw [Array.getElem?_append_right (by simp; omega)]
  simp [Array.getElem?_replicate]
  omega
/-- the bytes of s as a new row -/
theorem Br.text (w : World) (s : ByteArray) (cap : Nat) (hc : s.size ≤ cap) (m : Nat) (hm : s.size + m ≤ cap) :
    Br (w.alloc (.cells (bytesRow s cap) 5 ((bytesRow s cap).size, (bytesRow s cap).size + 1))) w.heap.size (s.data.toList ++ List.replicate m 0) := by
  have e : s.data.toList.length = s.size := Array.length_toList
  refine Br.made w _ _ _ (fun j hj => ?_) fun j hj => ?_
  · by_cases h : j < s.size
    · rw [bytesRow_at s cap j h, List.getElem_append_left (by omega)]
      simp
    · have h2 : j < s.size + m := by rw [List.length_append, List.length_replicate] at hj; omega
      rw [brow_zero s cap j (by omega) (by omega), List.getElem_append_right (by omega)]
      simp
  · rw [List.length_append, List.length_replicate] at hj
    rw [brow_size s cap hc]
    simp only
    omega
theorem info_u8' : (Try.prog.info? 5).map (fun i => (i.zero, i.size, i.bytes)) = some (some (.int .u8 0), 1, 1) := by kernel_rfl
theorem info_u8 : ∃ i : TypeInfo, Try.prog.info? 5 = some i ∧ i.zero = some (.int .u8 0) ∧ i.size = 1 ∧ i.bytes = 1 := by
  have h := info_u8'
  cases hq : Try.prog.info? 5 with
  | none => rw [hq] at h; cases h
  | some i => rw [hq] at h; simp at h; exact ⟨i, rfl, h.1, h.2.1, h.2.2⟩
set_option maxHeartbeats 1000000 in
/-- append of m bytes 0 to the bytes of s -/
theorem zeros_run (w : World) (s : ByteArray) (m ty : Nat) (hm : s.size + m ≤ 1099511627776) :
    ∃ b c w2, (Builtin.append_ #[33, 3] ty #[.slice (some ⟨w.heap.size, 0, none⟩) s.size (grownCap w s.size 0 5), .int .i64 m]).run Try.prog
        (w.drew.alloc (.cells (bytesRow s (grownCap w s.size 0 5)) 5 ((bytesRow s (grownCap w s.size 0 5)).size, (bytesRow s (grownCap w s.size 0 5)).size + 1))) = .ok (.slice (some ⟨b, 0, none⟩) (s.size + m) c) w2 ∧
      w.heap.size ≤ b ∧ Br w2 b (s.data.toList ++ List.replicate m 0) ∧ Below w.heap.size w w2 ∧ s.size + m ≤ c := by
  have e : s.data.toList.length = s.size := Array.length_toList
  obtain ⟨cap, hcap⟩ : ∃ c, c = grownCap w s.size 0 5 := ⟨_, rfl⟩
  have hc : s.size ≤ cap := hcap ▸ grownCap_ge w s.size 0 5
  rw [← hcap]; clear hcap
  obtain ⟨w1, hw1⟩ : ∃ x, x = w.drew.alloc (.cells (bytesRow s cap) 5 ((bytesRow s cap).size, (bytesRow s cap).size + 1)) := ⟨_, rfl⟩
  have hb0 : Br w1 w.heap.size (s.data.toList ++ List.replicate 0 0) := hw1 ▸ Br.text w.drew s cap hc 0 (by omega)
  have hbm : s.size + m ≤ cap → Br w1 w.heap.size (s.data.toList ++ List.replicate m 0) := fun h => hw1 ▸ Br.text w.drew s cap hc m h
  have hB : Below w.heap.size w w1 := by
    rw [hw1]; exact ((Below.refl w.heap.size w).drew).alloc (by exact Nat.le_refl _) _
  rw [← hw1]; clear hw1
  obtain ⟨i0, hi0, hz0, hz1, hz2⟩ := info_u8
  have hm0 : ¬ ((m : Int) < 0) := by omega
  have hm1 : IntKind.i64.wrap (m : Int) = (m : Int) := by rw [IntKind.wrap_i64]; omega
  have hm2 : ¬ (281474976710656 < (m : Int)) := by omega
  have hai : ∀ w, (asIntOf (Value.int IntKind.i64 (m : Int))).run Try.prog w = .ok (.i64, (m : Int)) w := fun w => rfl
  have hun := run_underlying (P := Try.prog) Try.underlying3
  by_cases g : s.size + m ≤ cap
  · have hx := hbm g
    have hst := run_storeCells_cells (P := Try.prog) w.heap.size s.size (bcells (List.replicate m 0)) 0 w1 (by
        intro j hj
        have hj' : j < m := by simpa [bcells] using hj
        rw [Nat.add_zero, (hx.2 (s.size + j) (by rw [List.length_append, List.length_replicate]; omega)).1]; rfl) (by
        intro j hj
        have hj' : j < m := by simpa [bcells] using hj
        rw [Nat.add_zero]; exact (hx.2 (s.size + j) (by rw [List.length_append, List.length_replicate]; omega)).2) (by
      intro v hv
      obtain ⟨x, _, rfl⟩ := List.mem_map.1 hv
      rfl)
    refine ⟨w.heap.size, cap, w1.setCells w.heap.size s.size (bcells (List.replicate m 0)), ?_, Nat.le_refl _, ?_, setCells_below (Nat.le_refl _) _ _ _ hB, g⟩
    · have hst' : Sem.run Try.prog (storeCells ⟨w.heap.size, s.size, none⟩ (List.replicate m (.int .u8 0))) w1 = .ok () (w1.setCells w.heap.size s.size (bcells (List.replicate m 0))) := by
        rw [← bcells_rep]; exact hst
      by_cases m0 : m = 0
      · subst m0
        have g' : s.size ≤ cap := g
        have ha0 : ∀ w, (asIntOf (Value.int IntKind.i64 0)).run Try.prog w = .ok (.i64, 0) w := fun w => rfl
        have hw0 : IntKind.i64.wrap 0 = 0 := by rw [IntKind.wrap_i64]; omega
        simp [Builtin.append_, run_underlying Try.underlying33, hun, sizeOf, typeInfo, hi0, ha0, hw0, g', asInt, storeCells, bcells, World.setCells]
      · simp [Builtin.append_, run_underlying Try.underlying33, hun, sizeOf, typeInfo, zeroValue, hi0, hz0, hz1, hz2, hai, hm0, hm1, hm2, g, asInt, m0, add_off, Value.cells, zero_rep, hst']
    · have := Br.cells (List.replicate m 0) s.size hx
      rw [← e] at this
      rw [lay_rep] at this
      rw [← e]
      exact this
  · have hx := hb0
    have hnx : Builtin.nextslicecap (s.size + m) cap ≤ 281474976710656 := by
      have := nextslicecap_le (need := s.size + m) (old := cap) (by omega)
      omega
    have hnx' : ¬ (281474976710656 < Builtin.nextslicecap (s.size + m) cap) := by omega
    have h63 : ¬ (9223372036854775807 < ((s.size : Int) + (m : Int))) := by omega
    have m0 : ¬ m = 0 := by omega
    have hfo := run_firstCells_some (P := Try.prog) w1.drew 1 s.size ⟨w.heap.size, 0, none⟩ s.size cap (bcells s.data.toList) (by unfold bcells; rw [List.length_map, e, Nat.mul_one]) (by
      intro j v hv
      have hj : j < s.data.toList.length := by
        have := (List.getElem?_eq_some_iff.1 hv).1
        simpa [bcells] using this
      rw [add_off]
      have h2 := (hb0.2 j (by rw [List.length_append]; omega)).1
      rw [List.getElem_append_left hj] at h2
      show w1.cell? _ = _
      rw [h2]
      simp [bcells, List.getElem?_map, List.getElem?_eq_getElem hj] at hv
      simp [hv])
    refine ⟨w1.heap.size, grownCap w1 (s.size + m) cap 5, w1.drew.alloc (.cells ((bcells s.data.toList).toArray ++ Array.replicate m (.int .u8 0) ++ Array.replicate (grownCap w1 (s.size + m) cap 5 - (s.size + m)) (.int .u8 0)) 5 (0, 0)), ?_, hB.size, ?_, ?_, grownCap_ge w1 (s.size + m) cap 5⟩
    · simp [Builtin.append_, run_underlying Try.underlying33, hun, sizeOf, typeInfo, zeroValue, hi0, hz0, hz1, hz2, hai, hm0, hm1, hm2, g, asInt, m0, Value.cells, zero_rep, hnx', h63, hfo, Question.forced, newRow, grownCap]
    · refine Br.made w1.drew _ _ _ (fun j hj => ?_) fun j hj => by simp
      rw [List.length_append, List.length_replicate] at hj
      by_cases h : j < s.data.toList.length
      · rw [Array.getElem?_append_left (by simp [bcells]; simp at h; omega), Array.getElem?_append_left (by simp [bcells]; simpa using h), List.getElem_append_left h]
        simp [bcells, List.getElem?_map, List.getElem?_eq_getElem h]
      · rw [Array.getElem?_append_left (by simp [bcells]; simp at h; simp at hj; omega), Array.getElem?_append_right (by simp [bcells]; simpa using h), List.getElem_append_right (by omega)]
        simp [bcells, Array.getElem?_replicate]
        simp at h hj
        omega
    · exact (hB.drew).alloc (by exact hB.size) _
end Go.Proofs.Ytlkplmlhlgnnkab
