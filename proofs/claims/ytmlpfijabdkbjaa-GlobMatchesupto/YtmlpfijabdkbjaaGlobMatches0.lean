/-
  The walk of GlobMatches: glob.Match and the document's own Match answer alike at every pattern and name.
-/
import Derived.Test.YtmlpfijabdkbjaaGlobRmatch
namespace Go.Proofs.Ytmlpfijabdkbjaa
open Go.RowKit
theorem known_y : Gb.ans ⟨#[104, 63, 108, 108, 111]⟩ ⟨#[104, 101, 108, 108, 111]⟩ = true := by decide +kernel
theorem known_n : Gb.ans ⟨#[104, 63, 108, 108, 111]⟩ ⟨#[104, 108, 108, 111]⟩ = false := by decide +kernel
set_option maxHeartbeats 1000000 in
theorem matches_walk (p s : ByteArray) (w : World) (hp : p.size ≤ 1048576) (hs : s.size ≤ 1048576) :
    Calls Try.prog 3 #[.string p, .string s] w fun e w' => e = .returned (.bool true) ∧ Below w.heap.size w w' := by
  have mP := fun w => match_any p s w (by omega) (by omega)
  have mR := fun w => rmatch_any p s w hp hs
  have mY := fun w => match_any ⟨#[104, 63, 108, 108, 111]⟩ ⟨#[104, 101, 108, 108, 111]⟩ w (by decide) (by decide)
  have mN := fun w => match_any ⟨#[104, 63, 108, 108, 111]⟩ ⟨#[104, 108, 108, 111]⟩ w (by decide) (by decide)
  rw [known_y] at mY
  rw [known_n] at mN
  generalize Gb.ans p s = q at *
  cases q
  all_goals
    go_enter Try.func3, Try.ntmps3
    go_wp2_with fail
    refine (mP _).mono ?_
    rintro e w1 ⟨rfl, hb1⟩
    have kb1 := keep hb1
    clear hb1
    go_wp2_with fail
    refine (mR _).mono ?_
    rintro e w2 ⟨rfl, hb2⟩
    have kb2 := keep hb2
    clear hb2
    go_wp2_with fail
    refine (mY _).mono ?_
    rintro e w3 ⟨rfl, hb3⟩
    have kb3 := keep hb3
    clear hb3
    go_wp2_with fail
    refine (mN _).mono ?_
    rintro e w4 ⟨rfl, hb4⟩
    have kb4 := keep hb4
    clear hb4
    go_wp2
    go_ret
    exact ⟨rfl, belTrans (belTrans (belTrans kb1.out kb2.out) kb3.out) kb4.out⟩
end Go.Proofs.Ytmlpfijabdkbjaa
