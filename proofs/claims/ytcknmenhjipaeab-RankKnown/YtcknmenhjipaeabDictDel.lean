/-
  Contracts over this program: Delete.
-/
import Derived.Test.YtcknmenhjipaeabDictGet
namespace Go.Proofs.Ytcknmenhjipaeab
open Go.RowKit Go.Shelf
theorem del_some {h : ByteArray → Nat} {s : Dc.St ByteArray Nat} {key : ByteArray} {x : Nat} (hl : Dc.look key (Dc.all (Dc.step h s)) = some x) : Dc.delete h s key = (Dc.shrink ((Dc.all (Dc.step h s)).length - 1) (Dc.every (Dc.without key) (Dc.step h s)), true) := by unfold Dc.delete; rw [hl]
theorem del_none {h : ByteArray → Nat} {s : Dc.St ByteArray Nat} {key : ByteArray} (hl : Dc.look key (Dc.all (Dc.step h s)) = none) : Dc.delete h s key = (Dc.step h s, false) := by unfold Dc.delete; rw [hl]
theorem del_len {h : ByteArray → Nat} {s : Dc.St ByteArray Nat} {key : ByteArray} {x : Nat} (hI : Dc.Inv h s) (hn : Dc.look key (Dc.all (Dc.step h s)) = some x) : (Dc.all (Dc.delete h s key).1).length = (Dc.all (Dc.step h s)).length - 1 ∧ 0 < (Dc.all (Dc.step h s)).length := by
  obtain ⟨q1, q2⟩ := Dc.step_inv hI
  have hnd : (Dc.keys (Dc.all (Dc.step h s))).Nodup := by rw [Dc.all_eq q1]; exact q1.nodup
  refine ⟨?_, List.length_pos_of_mem ((Dc.look_mem hnd key x).1 hn)⟩
  rw [(Dc.delete_inv hI key).2.2.2, q2.length_eq, ← Dc.look_perm hnd q2 key, hn]
  rfl
theorem del_end {h : ByteArray → Nat} {N n b seed : Nat} {s s3 : Dc.St ByteArray Nat} {key : ByteArray} {w W : World} {r r4 : Roles} {o : Bool} (e1 : Dc.delete h s key = (s3, o)) (e3 : (Dc.delete h s key).2 = (Dc.look key (Dc.all s)).isSome) (e2 : Okd h N (Dc.delete h s key).1) (e5 : (Dc.all (Dc.delete h s key).1).length = n) (hq : Dct W r4 b seed n s3) (hF : Fr w r W r4) :
    Ending.returned (.bool o) = .returned (.bool (Dc.look key (Dc.all s)).isSome) ∧ ∃ r', Dd h N W r' b seed (Dc.delete h s key).1 ∧ Fr w r W r' := by
  refine ⟨by rw [← e3, e1], r4, ⟨?_, e2⟩, hF⟩
  rw [e5, e1]
  exact hq
end Go.Proofs.Ytcknmenhjipaeab
