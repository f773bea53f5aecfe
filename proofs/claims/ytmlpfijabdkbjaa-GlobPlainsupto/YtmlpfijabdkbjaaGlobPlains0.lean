/-
  The walk of GlobPlains: glob.Plain and the document's own Plain answer alike at every pattern.
-/
import Derived.Test.YtmlpfijabdkbjaaGlobRplain
namespace Go.Proofs.Ytmlpfijabdkbjaa
open Go.RowKit
theorem known_a : Gb.ptext ⟨#[97]⟩ = ⟨#[97]⟩ ∧ Gb.pok ⟨#[97]⟩ = true := by
  have e : Gb.plainOf (Gb.sgs (Gb.D ⟨#[97]⟩ 0)) = some [97] := by decide +kernel
  unfold Gb.ptext Gb.pok
  rw [e]; exact ⟨rfl, rfl⟩
set_option maxHeartbeats 1000000 in
theorem plains_walk (p : ByteArray) (w : World) (hp : p.size ≤ 1048576) :
    Calls Try.prog 4 #[.string p] w fun e w' => e = .returned (.bool true) ∧ Below w.heap.size w w' := by
  have mP := fun w => plain_any p w (by omega)
  have mR := fun w => rplain_any p w hp
  have mA := fun w => plain_any ⟨#[97]⟩ w (by decide)
  rw [known_a.1, known_a.2] at mA
  have hself : ((Gb.ptext p).toList == (Gb.ptext p).toList) = true := beq_self_eq_true _
  generalize Gb.ptext p = t at *
  generalize Gb.pok p = q at *
  cases q
  all_goals
    go_enter Try.func4, Try.ntmps4
    go_wp2_with fail
    refine (mP _).mono ?_
    rintro e w1 ⟨rfl, hb1⟩
    have kb1 := keep hb1
    clear hb1
    go_wp2_with fail
    refine (mR _).mono ?_
    rintro e w2 ⟨rfl, hb2⟩
    have kb2 := keep hb2
    clear hb2
    go_wp2_with fail
    refine (mA _).mono ?_
    rintro e w3 ⟨rfl, hb3⟩
    have kb3 := keep hb3
    clear hb3
    go_wp2
    go_ret
    exact ⟨rfl, belTrans (belTrans kb1.out kb2.out) kb3.out⟩
end Go.Proofs.Ytmlpfijabdkbjaa
