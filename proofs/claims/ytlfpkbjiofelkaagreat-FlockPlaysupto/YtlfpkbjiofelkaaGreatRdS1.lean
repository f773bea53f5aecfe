/-
  Contracts over this program: Scan of the document's own flock.
-/
import Derived.Test.YtlfpkbjiofelkaaGreatRdS0
import Derived.Test.YtlfpkbjiofelkaaGreatRdF6
namespace Go.Proofs.YtlfpkbjiofelkaaGreat
open Go.RowKit Go.Shelf
set_option linter.unusedVariables false
set_option linter.unusedSimpArgs false
set_option maxRecDepth 100000
namespace Rd
set_option maxHeartbeats 1000000 in
theorem rnext_zero (w : World) (ao bo : Option Addr) (ca cb n : Nat) (c : Nat) (cnt : Int) :
    Calls Tryz.prog 59 #[.slice ao 0 ca, .slice bo n cb, .int .u64 c, .int .i64 cnt] w fun e w' => e = .returned (.tuple #[.int .u64 0, .slice none 0 0]) ∧ w' = w := by
  go_enter Tryz.func59, Tryz.ntmps59
  go_wp2
  refine bodyPost_ret (results_tmp2 rfl _ _ _) rfl ?_
  exact ⟨rfl, rfl⟩
theorem rfscan_nil (w : World) (c : Nat) (cnt : Int) : Calls Tryz.prog 38 #[.pointer none, .int .u64 c, .int .i64 cnt] w fun e w' => e = .returned (.tuple #[.int .u64 0, .slice none 0 0]) ∧ w' = w := by
  go_enter Tryz.func38, Tryz.ntmps38
  go_wp2
  refine bodyPost_ret (results_tmp2 rfl _ _ _) rfl ?_
  exact ⟨rfl, rfl⟩
section
variable {h : ByteArray → Nat} {N : Nat} {w : World} {r : Roles} {R b seed : Nat} {v : Value} {l : List ByteArray} {s : Sf} {KV : List (ByteArray × Int)}
set_option maxHeartbeats 1000000 in
theorem rfscan_lift (hf : RFm h N w r R b seed v l s KV) (c : Nat) (cnt : Int) (c' : Nat) (o : List ByteArray)
    (mN : ∀ W v1 v2, Below w.heap.size w W → Rz W v1 (s.old.map Dc.keys) → Rz W v2 (s.young.map Dc.keys) → Calls Tryz.prog 59 #[v1, v2, .int .u64 c, .int .i64 cnt] W fun x w' => (∃ v' : Value, x = .returned (.tuple #[.int .u64 (c' : Nat), v']) ∧ Ks W.heap.size w' v' o) ∧ Below W.heap.size W w') :
    Calls Tryz.prog 38 #[.pointer (some ⟨R, 0, none⟩), .int .u64 c, .int .i64 cnt] w fun x w' => (∃ v' : Value, x = .returned (.tuple #[.int .u64 (c' : Nat), v']) ∧ Ks w.heap.size w' v' o) ∧ Below w.heap.size w w' := by
  have MT := keep (tables_any hf.1.1)
  obtain ⟨c0, c1, c2, cf⟩ := tri hf.2.2.1
  have MN := keep mN
  clear hf c0 c1 cf mN
  go_enter Tryz.func38, Tryz.ntmps38
  go_wp2_with fail
  refine MT.out.mono ?_
  rintro _ w1 ⟨⟨ov, yv, rfl, t0, t1⟩, _, hb⟩
  have M2 := keep (MN.out w1 ov yv hb t0.rz t1.rz)
  have HB := keep hb
  obtain ⟨o1, c1, rfl⟩ := t0.slice
  obtain ⟨o2, c2', rfl⟩ := t1.slice
  clear MT MN t0 t1 hb c2
  generalize s.old.length = n0 at *
  generalize s.young.length = n1 at *
  go_wp2_with fail
  refine M2.out.mono ?_
  rintro _ w2 ⟨⟨v', rfl, hk⟩, hb2⟩
  have HK := keep (hk.more HB.out.size)
  have HB2 := keep (bup HB.out hb2)
  clear hk hb2 M2 HB
  go_wp2
  refine bodyPost_ret (results_tmp2 rfl _ _ _) rfl ?_
  exact ⟨⟨v', rfl, HK.out⟩, HB2.out⟩
/-- a table of no buckets: nothing is told -/
theorem rfscan_zero (hf : RFm h N w r R b seed v l s KV) (h0 : s.old.length = 0) (c : Nat) (cnt : Int) :
    Calls Tryz.prog 38 #[.pointer (some ⟨R, 0, none⟩), .int .u64 c, .int .i64 cnt] w fun x w' => (∃ v' : Value, x = .returned (.tuple #[.int .u64 (0 : Nat), v']) ∧ Ks w.heap.size w' v' []) ∧ Below w.heap.size w w' := by
  refine rfscan_lift hf c cnt 0 [] (fun W v1 v2 hb h1 h2 => ?_)
  obtain ⟨ao, ca, rfl⟩ := h1.form
  obtain ⟨bo, cb, rfl⟩ := h2.form
  rw [List.length_map, h0]
  refine (rnext_zero W ao bo ca cb _ c cnt).mono ?_
  rintro _ w' ⟨rfl, rfl⟩
  exact ⟨⟨_, rfl, ⟨rfl, .inl ⟨rfl, rfl⟩⟩⟩, Below.refl _ _⟩
/-- a table: what the program's own scan tells of it -/
theorem rfscan_any (hf : RFm h N w r R b seed v l s KV) (A d : Nat) (hL : Lay s A d) (hN : N ≤ 8000000000000) (h0 : s.old.length ≠ 0) (c : Nat) (hc : c < 2 ^ 64) (cnt : Int) (m : Nat) (hm : max cnt 1 = (m : Int)) :
    Calls Tryz.prog 38 #[.pointer (some ⟨R, 0, none⟩), .int .u64 c, .int .i64 cnt] w fun x w' => (∃ v' : Value, x = .returned (.tuple #[.int .u64 ((Rv.scanF s A d m (2 ^ A) c []).1 : Nat), v']) ∧ Ks w.heap.size w' v' (Rv.scanF s A d m (2 ^ A) c []).2) ∧ Below w.heap.size w w' :=
  rfscan_lift hf c cnt _ _ (fun W v1 v2 hb h1 h2 => rnext_more W v1 v2 h s hf.1.2.1.1 A d hL (Nat.le_trans hf.1.2.1.2.2.1 hN) h0 h1 h2 c hc cnt m hm)
end
end Rd
end Go.Proofs.YtlfpkbjiofelkaaGreat
