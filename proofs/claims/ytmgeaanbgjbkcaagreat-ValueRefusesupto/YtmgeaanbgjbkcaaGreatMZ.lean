/-
  Contracts over this program, put together.
-/
import Derived.Test.YtmgeaanbgjbkcaaGreatMZa
import Derived.Test.YtmgeaanbgjbkcaaGreatMZb
import Derived.Test.YtmgeaanbgjbkcaaGreatMZr
import Derived.Test.YtmgeaanbgjbkcaaGreatMZk
import Derived.Test.YtmgeaanbgjbkcaaGreatMZd
set_option maxHeartbeats 16000000
namespace Go.Proofs.YtmgeaanbgjbkcaaGreat
open Go.RowKit Go.Shelf
namespace Vl
theorem refz_walk (w : World) (kd : Int) (tx : ByteArray) (io po no so : Option Addr) (n1 n2 n3 n4 k1 k2 k3 k4 : Nat) (d : Dt) (hA : Arg w kd tx io po no so n1 n2 n3 n4 k1 k2 d) (hkd : d.kind = kd) (htx : d.text = tx) (hwf : Wf d) (s1 : d.items.length ≤ 1048576) (s2 : d.pairs.length ≤ 1048576) (s3 : d.ranks.length ≤ 1048576) (how : Int) (s : ByteArray) (hs : s.size ≤ 1048576) :
    Calls Tryz.prog 7 #[.agg #[.int .i64 kd, .string tx, .slice io n1 k1, .slice po n2 k2, .slice no n3 k3, .slice so n4 k4], .int .i64 how, .string s] w fun e w' => e = .returned (.bool true) ∧ Below w.heap.size w w' := by
  obtain ⟨kd', tx', I, P, R⟩ := d
  dsimp only at hkd htx s1 s2 s3
  subst hkd htx
  by_cases ha : (how = 0 ∨ how = 1 ∨ (how = 2 ∧ kd' ≠ 1) ∨ (how = 3 ∧ kd' ≠ 3) ∨ (how = 4 ∧ kd' ≠ 5) ∨ (how = 5 ∧ kd' ≠ 2 ∧ kd' ≠ 4) ∨ (how = 9 ∧ 0 < R.length))
  · exact refz_a w kd' tx' io po no so n1 n2 n3 n4 k1 k2 k3 k4 I P R hA hwf s1 s2 s3 how s hs ha
  by_cases hb : ((how = 6 ∧ kd' = 4 ∧ 0 < I.length) ∨ (how = 7 ∧ 0 < P.length) ∨ (how = 8 ∧ 0 < R.length))
  · exact refz_b w kd' tx' io po no so n1 n2 n3 n4 k1 k2 k3 k4 I P R hA hwf s1 s2 s3 how s hs (.inl hb)
  by_cases h1 : kd' = 1
  · exact refz_b w kd' tx' io po no so n1 n2 n3 n4 k1 k2 k3 k4 I P R hA hwf s1 s2 s3 how s hs (.inr ⟨h1, ha, hb⟩)
  by_cases h3 : kd' = 3
  · exact refz_r w kd' tx' io po no so n1 n2 n3 n4 k1 k2 k3 k4 I P R hA hwf s1 s2 s3 how s hs ⟨h3, ha, hb⟩
  by_cases h5 : kd' = 5
  · exact refz_k w kd' tx' io po no so n1 n2 n3 n4 k1 k2 k3 k4 I P R hA hwf s1 s2 s3 how s hs ⟨h5, ha, hb⟩
  exact refz_d w kd' tx' io po no so n1 n2 n3 n4 k1 k2 k3 k4 I P R hA hwf s1 s2 s3 how s hs ⟨⟨h1, h3, h5⟩, ha, hb⟩
end Vl
end Go.Proofs.YtmgeaanbgjbkcaaGreat
