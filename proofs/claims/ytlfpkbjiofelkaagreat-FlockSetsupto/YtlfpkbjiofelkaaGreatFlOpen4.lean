/-
  How much came in: rows of rows of texts, by their data.
-/
import Derived.Test.YtlfpkbjiofelkaaGreatFlOpen3
namespace Go.Proofs.YtlfpkbjiofelkaaGreat
open Go.ChangeShapes Go.WideShapes Go.ChangeAt Go.RowKit
set_option maxRecDepth 100000
section
variable {H : Type} {enc : TypeId × Value → H} {W : World}
/-- the data of a row of m things -/
def Big (d : DataW H) (m : Nat) : Prop := (d = .nil ∧ m = 0) ∨ ∃ D E, d = .slice D E ∧ D.length = m
theorem open_txts_d {fuel : Nat} {cs : List Value} {x : DataW H × List MemPlace} (h : DataW.trod enc Tryz.prog W 0 (fun _ => true) true fuel 43 cs = some x) {so : Option Addr} {m cap : Nat} (hc : cs = [.slice so m cap]) : Big x.1 m := by
  rcases Go.Deep.open_slice Tryz.underlying43 h with ⟨hcs, hx⟩ | ⟨a, l0, cap', m', n, D, Pl, hcs, _, hl, hm, hmm, hx, hel⟩
  · rw [hc] at hcs
    cases hcs
    rw [hx]
    exact .inl ⟨rfl, rfl⟩
  · rw [hc] at hcs
    cases hcs
    simp only [if_true] at hmm
    subst hmm
    rw [hx]
    exact .inr ⟨_, _, rfl, by simp⟩
theorem open_rows_d {v : Value} {d : DataW H} {p : List MemPlace} {so : Option Addr} {cap : Nat} {R : List (List ByteArray)} (hv : v = .slice so R.length cap) (hR : Rowss W so R)
    (h : DataW.Trod enc Tryz.prog W 0 (fun _ => true) true 39 v d p) :
    (d = .nil ∧ R = []) ∨ ∃ D E, d = .slice D E ∧ D.length = R.length ∧ ∀ j (hj : j < R.length) (hj' : j < D.length), Big D[j] R[j].length := by
  obtain ⟨fuel, h⟩ := h
  rcases Go.Deep.open_slice Tryz.underlying39 h with ⟨hcs, hx⟩ | ⟨a, len, cap', m, n, D, Pl, hcs, _, hl, hm, hmm, hx, hel⟩
  · rw [hv] at hcs
    have hcs : [Value.slice so R.length cap] = [.slice none 0 0] := hcs
    injection hcs with h1 _
    injection h1 with _ h2 _
    cases hx
    exact .inl ⟨rfl, List.length_eq_zero_iff.1 h2⟩
  · rw [hv] at hcs
    have hcs : [Value.slice so R.length cap] = [.slice (some a) len cap'] := hcs
    injection hcs with h1 _
    injection h1 with e1 e2 e3
    subst e1 e2 e3
    simp only [if_true] at hmm
    subst hmm
    cases hx
    refine .inr ⟨_, _, rfl, by simp, fun j hj hj' => ?_⟩
    obtain ⟨cs', h1, h2⟩ := hel j (by omega)
    rw [cells_strs] at h1
    obtain ⟨_, hlen, hcl⟩ := World.cells?_some h1
    obtain ⟨a', ea, _, so', cap2, hc, _⟩ := hR j hj
    cases ea
    have e := hcl 0 (by omega)
    rw [Nat.mul_one] at e
    have hcs' : cs' = [.slice so' R[j].length cap2] := by
      obtain ⟨so2, cap3, S2, hS2, _⟩ := open_txts_in h2
      rw [hS2] at e ⊢
      have e : W.cell? (a.add j) = some (.slice so2 S2.length cap3) := e
      rw [hc] at e
      injection e with e
      injection e with e1 e2 e3
      rw [e1, e2, e3]
    have := open_txts_d h2 hcs'
    simpa using this
end
end Go.Proofs.YtlfpkbjiofelkaaGreat
