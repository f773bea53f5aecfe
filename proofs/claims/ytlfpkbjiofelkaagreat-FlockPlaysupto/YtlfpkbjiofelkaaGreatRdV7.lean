/-
  How the arguments of FlockPlays are opened: two seeds, and a script whose texts are no longer than all that came in.
-/
import Derived.Test.YtlfpkbjiofelkaaGreatFlOpen
import Derived.Test.YtlfpkbjiofelkaaGreatRows
namespace Go.Proofs.YtlfpkbjiofelkaaGreat
open Go.ChangeShapes Go.WideShapes Go.ChangeAt Go.RowKit
set_option maxRecDepth 100000
namespace Rd
theorem okWide_arr {P : Program} {w : World} {r : Reach} {base n : Nat} {e t : TypeId} {v : Value} (ht : P.underlying t = some (.array n e)) (h : Value.okWide P w r base t v) : ∃ cs, v = .agg cs ∧ cs.size = P.cellsOf t := by
  simp only [Value.okWide, ht] at h
  obtain ⟨cs, h1, h2, _⟩ := h
  exact ⟨cs, h1, h2⟩
theorem cells_seeds : Tryz.prog.cellsOf 23 = 2 := by kernel_rfl
section
variable {H : Type} {enc : TypeId × Value → H} {W : World}
theorem open_seeds {v : Value} {d : DataW H} {p : List MemPlace} {base : Nat} (o : Value.okWide Tryz.prog W .any base 23 v)
    (h : DataW.Trod enc Tryz.prog W 0 (fun _ => true) true 23 v d p) : ∃ x0 x1 : Nat, v = .agg #[.int .u64 (x0 : Int), .int .u64 (x1 : Int)] ∧ x0 < Dw.M ∧ x1 < Dw.M := by
  obtain ⟨cs, rfl, hcs⟩ := okWide_arr Tryz.underlying23 o
  obtain ⟨fuel, h⟩ := h
  obtain ⟨xs, m, _, hx, hlen, hlx, hf⟩ := DataW.trod_array Tryz.underlying23 h
  have h0 := hf 0 (by omega)
  have h1 := hf 1 (by omega)
  rw [cells_seeds] at hlen
  obtain ⟨l⟩ := cs
  have hlen : l.length = 2 := hlen
  match l, hlen with
  | [c0, c1], _ =>
    match xs, hlx with
    | [y0, y1], _ =>
      have h0 : DataW.trod enc Tryz.prog W 0 (fun _ => true) true m 22 [c0] = some y0 := by simpa [cells_u64, Value.cells] using h0
      have h1 : DataW.trod enc Tryz.prog W 0 (fun _ => true) true m 22 [c1] = some y1 := by simpa [cells_u64, Value.cells] using h1
      obtain ⟨k0, e0, _, w0⟩ := DataW.trod_int Tryz.underlying22 h0
      obtain ⟨k1, e1, _, w1⟩ := DataW.trod_int Tryz.underlying22 h1
      obtain ⟨b0, hb0, hl0⟩ := Dw.u64_of w0
      obtain ⟨b1, hb1, hl1⟩ := Dw.u64_of w1
      cases e0; cases e1
      exact ⟨b0, b1, by rw [hb0, hb1], hl0, hl1⟩
theorem bulk_one (d : DataW H) : 1 ≤ Rows.uptoBulk d := by
  unfold Rows.uptoBulk
  split <;> omega
theorem bulk_mem {D : List (DataW H)} {d : DataW H} (h : d ∈ D) : Rows.uptoBulk d ≤ Rows.uptoBulkAll D := by
  induction D with
  | nil => cases h
  | cons e D ih =>
    simp only [Rows.uptoBulkAll]
    rcases List.mem_cons.1 h with rfl | h
    · omega
    · have := ih h; omega
theorem bulk_len (D : List (DataW H)) : D.length ≤ Rows.uptoBulkAll D := by
  induction D with
  | nil => exact Nat.zero_le _
  | cons d D ih =>
    have := bulk_one d
    simp only [Rows.uptoBulkAll, List.length_cons]
    omega
theorem open_step_d {fuel : Nat} {cs : List Value} {x : DataW H × List MemPlace} (h : DataW.trod enc Tryz.prog W 0 (fun _ => true) true fuel 32 cs = some x) :
    ∃ g : Stp, cs = g.cells.toList ∧ g.f.size ≤ Rows.uptoBulk x.1 := by
  obtain ⟨xs, n, _, hx, hlen, hlx, hf⟩ := DataW.trod_struct Tryz.underlying32 h
  rw [cells_step] at hlen
  match cs, hlen with
  | [c0, c1, c2, c3, c4, c5], _ =>
    match xs, hlx with
    | [y0, y1, y2, y3, y4, y5], _ =>
      have h0 : DataW.trod enc Tryz.prog W 0 (fun _ => true) true n 3 [c0] = some y0 := by simpa [cells_i64] using hf 0 _ rfl
      have h1 : DataW.trod enc Tryz.prog W 0 (fun _ => true) true n 3 [c1] = some y1 := by simpa [cells_i64] using hf 1 _ rfl
      have h2 : DataW.trod enc Tryz.prog W 0 (fun _ => true) true n 9 [c2] = some y2 := by simpa [cells_str] using hf 2 _ rfl
      have h3 : DataW.trod enc Tryz.prog W 0 (fun _ => true) true n 3 [c3] = some y3 := by simpa [cells_i64] using hf 3 _ rfl
      have h4 : DataW.trod enc Tryz.prog W 0 (fun _ => true) true n 22 [c4] = some y4 := by simpa [cells_u64] using hf 4 _ rfl
      have h5 : DataW.trod enc Tryz.prog W 0 (fun _ => true) true n 3 [c5] = some y5 := by simpa [cells_i64] using hf 5 _ rfl
      obtain ⟨k0, e0, _, _⟩ := DataW.trod_int Tryz.underlying3 h0
      obtain ⟨k1, e1, _, _⟩ := DataW.trod_int Tryz.underlying3 h1
      obtain ⟨s2, e2, hy2, hs2⟩ := DataW.trod_string Tryz.underlying9 h2
      obtain ⟨k3, e3, _, _⟩ := DataW.trod_int Tryz.underlying3 h3
      obtain ⟨k4, e4, _, w4⟩ := DataW.trod_int Tryz.underlying22 h4
      obtain ⟨k5, e5, _, w5⟩ := DataW.trod_int Tryz.underlying3 h5
      obtain ⟨b', hb, hlt⟩ := Dw.u64_of w4
      cases e0; cases e1; cases e2; cases e3; cases e4; cases e5
      refine ⟨⟨k0, k1, s2, k3, b', k5⟩, by rw [hb]; rfl, ?_⟩
      rw [hx]
      simp only [Rows.uptoBulk]
      have hm := bulk_mem (D := [y0, y1, y2, y3, y4, y5].map (·.1)) (d := y2.1) (by simp)
      have e : Rows.uptoBulk y2.1 = s2.size + 1 := by rw [hy2]; simp [Rows.uptoBulk]
      show s2.size ≤ _
      omega
/-- the script, and that no text of it is longer than all that came in -/
theorem open_ops_d {v : Value} {d : DataW H} {p : List MemPlace} {base : Nat} (o : Value.okWide Tryz.prog W .any base 24 v)
    (h : DataW.Trod enc Tryz.prog W 0 (fun _ => true) true 24 v d p) :
    ∃ so cap S, v = .slice so S.length cap ∧ Steps W so S ∧ S.length ≤ Rows.uptoBulk d ∧ ∀ j (hj : j < S.length), S[j].f.size ≤ Rows.uptoBulk d := by
  obtain ⟨so, cap, S, hv, hS, hd⟩ := open_steps0 o h
  refine ⟨so, cap, S, hv, hS, ?_, fun j hj => ?_⟩
  · rcases hd with ⟨_, rfl⟩ | ⟨D, E, rfl, hl⟩
    · exact Nat.zero_le _
    · have := bulk_len D
      simp only [Rows.uptoBulk]
      omega
  · obtain ⟨a0, rfl, _, _, _, hat⟩ := hS j hj
    obtain ⟨fuel, h⟩ := h
    subst hv
    rcases Go.Deep.open_slice Tryz.underlying24 h with ⟨hcs, hx⟩ | ⟨a, len, cap', m, n, D, Pl, hcs, _, hl, hm, hmm, hx, hel⟩
    · cases hcs
    · have hcs : [Value.slice (some a0) S.length cap] = [.slice (some a) len cap'] := hcs
      cases hcs
      simp only [if_true] at hmm
      subst hmm
      obtain ⟨cs', h1, h2⟩ := hel j (by omega)
      obtain ⟨g, hc, hk⟩ := open_step_d h2
      rw [cells_step] at h1
      obtain ⟨_, _, hcl⟩ := World.cells?_some h1
      have e := hcl 2 (by omega)
      rw [hc] at e
      have e2 : some (Value.string S[j].f) = some (Value.string g.f) := hat.2.2.1.symm.trans e
      have e3 : S[j].f = g.f := by simpa using e2
      rw [e3]
      cases hx
      have hm2 := bulk_mem (D := List.map D (List.range S.length)) (d := D j) (List.mem_map.2 ⟨j, List.mem_range.2 hj, rfl⟩)
      have hk : g.f.size ≤ Rows.uptoBulk (D j) := hk
      simp only [Rows.uptoBulk]
      omega
end
end Rd
end Go.Proofs.YtlfpkbjiofelkaaGreat
