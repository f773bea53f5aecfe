/-
  Contracts over this program: Error of any text.
-/
import Derived.Test.YtehpdgkbggiejabDoorRpMake
import Derived.Lib.SplitLaws
namespace Go.Proofs.YtehpdgkbggiejabDoor
open Go.RowKit
set_option linter.unusedVariables false
theorem rep_ne (c d x : UInt8) (k : Nat) (l : List UInt8) (h : x ≠ c) : Lib.replaceK [c] [d] k (x :: l) = x :: Lib.replaceK [c] [d] k l := by
  cases k with
  | zero => rfl
  | succ k =>
    have hx : (x == c) = false := by simpa using h
    have e : Lib.indexByte (x :: l) c = if Lib.indexByte l c == -1 then -1 else Lib.indexByte l c + 1 := by
      show (if (x == c) = true then (0 : Int) else _) = _
      rw [hx]; rfl
    unfold Lib.replaceK
    rw [Lib.index_one, Lib.index_one, e]
    by_cases hm : Lib.indexByte l c = -1
    · rw [hm]; rfl
    · have hge := Lib.indexByte_ge l c
      have hb : (Lib.indexByte l c == -1) = false := by simpa using hm
      have h2 : (Lib.indexByte l c + 1 == -1) = false := by
        have : ¬ Lib.indexByte l c + 1 = -1 := by omega
        simpa using this
      rw [hb]
      simp only [Bool.false_eq_true, if_false, h2]
      rw [show (Lib.indexByte l c + 1).toNat = (Lib.indexByte l c).toNat + 1 by omega]
      simp
theorem rep_eq (c d : UInt8) (k : Nat) (l : List UInt8) : Lib.replaceK [c] [d] (k + 1) (c :: l) = d :: Lib.replaceK [c] [d] k l := by
  have e : Lib.indexByte (c :: l) c = 0 := by
    show (if (c == c) = true then (0 : Int) else _) = _
    simp
  rw [Lib.replaceK, Lib.index_one, e]
  rfl
theorem rep_map (c d : UInt8) : ∀ (l : List UInt8), Lib.replaceK [c] [d] (l.count c) l = l.map fun x => if x = c then d else x
  | [] => rfl
  | x :: l => by
    by_cases h : x = c
    · subst h
      rw [List.count_cons_self, rep_eq, rep_map x d l, List.map_cons, if_pos rfl]
    · rw [List.count_cons_of_ne (by simpa using h), rep_ne c d x _ l h, rep_map c d l, List.map_cons, if_neg h]
theorem rep_all (c d : UInt8) (h : c ≠ d) (l : List UInt8) : Lib.replaceAll l [c] [d] = l.map fun x => if x = c then d else x := by
  have hb : ([c] == [d]) = false := by simpa using h
  unfold Lib.replaceAll Lib.replace Lib.replaceNum
  rw [hb, if_neg (by decide), if_pos (.inl (by decide)), Lib.count_one, rep_map]
/-- what Error makes of a text -/
def errT (s : ByteArray) : ByteArray := Rp.ofL (((Rp.bytesOf s).map fun x => if x = 13 then 32 else x).map fun x => if x = 10 then 32 else x)
theorem errT_size (s : ByteArray) : (errT s).size = s.size := by
  unfold errT
  rw [Rp.ofL_size, List.length_map, List.length_map, Rp.bytes_len]
theorem errT_clean (s : ByteArray) : Rp.clean (Rp.bytesOf (errT s)) = true := by
  unfold errT Rp.clean
  rw [Rp.ofL_bytes, List.all_eq_true]
  intro c hc
  obtain ⟨x, hx, rfl⟩ := List.mem_map.1 hc
  obtain ⟨y, hy, rfl⟩ := List.mem_map.1 hx
  by_cases h : y = 13
  · rw [if_pos h, if_neg (by decide)]; decide
  · rw [if_neg h]
    by_cases h1 : y = 10
    · rw [if_pos h1]; decide
    · rw [if_neg h1]
      simp [h, h1]
theorem repl_any (s : ByteArray) (c : UInt8) (w : World) (hv : Vars w) (hs : s.size < 4294967281) (hc : c ≠ 32) :
    Calls Tryd.prog 16 #[.string s, .string ⟨#[c]⟩, .string ⟨#[32]⟩] w fun e w' => e = .returned (.string (Rp.ofL ((Rp.bytesOf s).map fun x => if x = c then 32 else x))) ∧ Below w.heap.size w w' := by
  obtain ⟨m, hm⟩ := hv.2
  have h := Any.strings_ReplaceAll { Tryd.laysM155 with } Tryd.Builder_Extra_M155 s ⟨#[c]⟩ ⟨#[32]⟩ m w hs hm (by show 1 ≤ 1; omega) (by
    have := Lib.countB_le ⟨#[c]⟩ (by show 1 ≤ 1; omega) s.size s (Nat.le_refl _)
    show s.size + Lib.countB s ⟨#[c]⟩ * 1 ≤ _
    omega)
  refine Calls.mono h fun e w' ⟨he, hb⟩ => ⟨?_, hb⟩
  rw [he]
  show Ending.returned (.string (Rp.ofL (Lib.replaceAll (Rp.bytesOf s) [c] [32]))) = _
  rw [rep_all c 32 hc]
set_option maxHeartbeats 1000000 in
theorem error_any (s : ByteArray) (w : World) (hv : Vars w) (hs : s.size < 4294967281) :
    Calls Tryd.prog 6 #[.string s] w fun e w' => e = .returned (.agg #[.int .i64 2, .string (errT s), .int .i64 0, .slice none 0 0]) ∧ Below w.heap.size w w' := by
  obtain ⟨W1, hW1, X1, B1⟩ := rep_pre w
  have R1 := keep (repl_any s 13 W1 (hv.below B1.out) hs (by decide))
  have R2 := keep (fun w' (hb : Below w.heap.size w w') => repl_any (Rp.ofL ((Rp.bytesOf s).map fun x => if x = 13 then 32 else x)) 10 w' (hv.below hb) (by rw [Rp.ofL_size, List.length_map, Rp.bytes_len]; exact hs) (by decide))
  have e : (Rp.ofL ((Rp.bytesOf (Rp.ofL ((Rp.bytesOf s).map fun x => if x = 13 then 32 else x))).map fun x => if x = 10 then 32 else x)) = errT s := rfl
  rw [e] at R2
  clear e
  generalize errT s = t at *
  generalize Rp.ofL ((Rp.bytesOf s).map fun x => if x = 13 then 32 else x) = s1 at *
  clear hv hs
  go_enter Tryd.func6, Tryd.ntmps6
  go_wp2_with fail
  refine R1.out.mono ?_
  rintro e w2 ⟨rfl, b2⟩
  have B2 := keep (B1.out.trans (b2.mono B1.out.size))
  have X2 := keep (X1.out.below b2 X1.out.lt)
  clear b2
  go_wp2_with fail
  refine (R2.out _ B2.out).mono ?_
  rintro e w3 ⟨rfl, b3⟩
  have B3 := keep (B2.out.trans (b3.mono B2.out.size))
  have X3 := keep (X2.out.below b3 X2.out.lt)
  obtain ⟨d0, d1, d2, d3⟩ := X3.out.cells
  have f0 := X3.out.free 0
  have f1 := X3.out.free 1
  have f2 := X3.out.free 2
  have f3 := X3.out.free 3
  clear b3 R1 R2 hW1
  go_wp2
  (try simp only [Exit.inBlock, Exit.then])
  refine bodyPost_ret (res_rp1 rfl _ _ w.heap.size _ _ _ _ rfl (Box.four X3.out _ _ _ _)) rfl ?_
  exact ⟨rfl, Below.four B3.out (Nat.le_refl _) _ _ _ _⟩
end Go.Proofs.YtehpdgkbggiejabDoor
