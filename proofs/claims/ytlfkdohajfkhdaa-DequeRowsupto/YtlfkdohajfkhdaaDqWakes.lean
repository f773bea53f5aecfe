/-
  Contracts over this program: the statements' own wakes answers true.
-/
import Derived.Test.YtlfkdohajfkhdaaDqSame
import Derived.Test.YtlfkdohajfkhdaaDqRow
import Derived.Test.YtlfkdohajfkhdaaDqIns
import Derived.Test.YtlfkdohajfkhdaaDqPop
import Derived.Test.YtlfkdohajfkhdaaDqPush1
import Derived.Test.YtlfkdohajfkhdaaDqCost
namespace Go.Proofs.Ytlfkdohajfkhdaa
open Go.RowKit
set_option linter.unusedVariables false
theorem tx_one {cs : List Chk} {ts : List ByteArray} (h : tx cs = [ts]) : ∃ c, cs = [(c, ts)] := by
  cases cs with
  | nil => cases h
  | cons x r =>
    cases r with
    | nil => simp only [tx, List.map_cons, List.map_nil, List.cons.injEq, and_true] at h; exact ⟨x.1, by rw [← h]⟩
    | cons y r => simp [tx] at h
theorem home_one {cs : List Chk} {ts0 : List ByteArray} (h : tx cs = [ts0]) {i : Nat} {A : List Chk} {c : Nat} {ts : List ByteArray} {B : List Chk} {p : Nat} (hh : Home cs i A c ts B p) : A = [] ∧ B = [] ∧ ts = ts0 ∧ p = i := by
  obtain ⟨c0, rfl⟩ := tx_one h
  have ha := hh.at'
  rcases hh.is with e | ⟨e, _⟩
  · cases A with
    | nil => simp only [List.nil_append, List.cons.injEq, Prod.mk.injEq] at e; exact ⟨rfl, e.2.symm, e.1.2.symm, by simp [row] at ha; omega⟩
    | cons x A => simp at e
  · cases e
theorem rem_one {cs cs' : List Chk} {ts0 : List ByteArray} (h : tx cs = [ts0]) {i : Nat} (hr : Rem cs i cs') : tx cs' = if (ts0.take i ++ ts0.drop (i + 1)).length = 0 then [] else [ts0.take i ++ ts0.drop (i + 1)] := by
  obtain ⟨c0, rfl⟩ := tx_one h
  obtain ⟨A, c, ts, B, ⟨e, _, _⟩, rfl⟩ := hr
  cases A with
  | nil =>
    simp only [List.nil_append, List.cons.injEq, Prod.mk.injEq] at e
    obtain ⟨⟨rfl, rfl⟩, rfl⟩ := e
    unfold cutC
    simp only [row, List.flatMap_nil, List.length_nil, Nat.sub_zero]
    split <;> rfl
  | cons x A => simp at e
theorem cnts_tx (cs : List Chk) : cnts cs = ((tx cs).map fun t => ((t.length : Nat) : Int)).map (Value.int .i64) := by
  unfold cnts tx
  simp only [List.map_map]
  rfl
theorem chunks_ki (w : World) (b : Nat) (cs : List Chk) (hd : Dq w b cs) :
    Calls Try.prog 29 #[ptr b] w fun e w' => (∃ v, e = .returned v ∧ Ki w.heap.size w' v ((tx cs).map fun t => ((t.length : Nat) : Int))) ∧ Below w.heap.size w w' := by
  refine (chunks_any w b cs hd).mono ?_
  rintro e w' ⟨⟨v, rfl, h⟩, hb⟩
  refine ⟨⟨v, rfl, ?_⟩, hb⟩
  unfold Ki
  rw [← cnts_tx, List.length_map, List.length_map]
  exact h
theorem rowlen_tx {cs : List Chk} {L : List (List ByteArray)} (h : tx cs = L) : row cs = L.flatten := by rw [row_tx, h]
abbrev ta : ByteArray := ⟨#[97]⟩
abbrev tb : ByteArray := ⟨#[98]⟩
abbrev tc : ByteArray := ⟨#[99]⟩
set_option maxRecDepth 100000 in
set_option maxHeartbeats 4000000 in
theorem wakes_any (w : World) : Calls Try.prog 17 #[] w fun e w' => e = .returned (.bool true) ∧ Below w.heap.size w w' := by
  have mN := keep (new_any w)
  go_enter Try.func17, Try.ntmps17
  go_wp2_with fail
  refine mN.out.mono ?_
  rintro _ w1 ⟨rfl, hd1, hb1, hz1⟩
  have m1 := keep (push_behind w1 _ _ tb hd1 (by decide) (by decide))
  have HB := keep hb1
  clear mN hb1 hz1 hd1
  go_wp2_with fail
  refine m1.out.mono ?_
  rintro _ w2 ⟨rfl, c2, hd2, hf2, ht2⟩
  have ht2 : tx c2 = [[tb]] := ht2
  have m2 := keep (push_ahead w2 _ _ ta hd2 (by decide) (by rw [rowlen_tx ht2]; decide))
  rw [ht2] at m2
  have HF2 := keep hf2
  clear m1 hd2 hf2 ht2
  go_wp2_with fail
  refine m2.out.mono ?_
  rintro _ w3 ⟨rfl, c3, hd3, hf3, ht3⟩
  have ht3 : tx c3 = [[ta, tb]] := ht3
  have m3 := keep (insert_in w3 _ _ 2 tc hd3 (by rw [rowlen_tx ht3]; decide) (by decide) (by rw [rowlen_tx ht3]; decide))
  have HT3 := keep ht3
  have HF3 := keep (HF2.out.trans hf3)
  clear m2 hd3 hf3 ht3 HF2
  go_wp2_with fail
  refine m3.out.mono ?_
  rintro _ w4 ⟨rfl, A, c, ts, B, p, c4, hh4, hd4, hf4, ht4⟩
  obtain ⟨rfl, rfl, rfl, rfl⟩ := home_one HT3.out hh4
  have ht4 : tx c4 = [[ta, tb, tc]] := ht4
  have hr4 := rowlen_tx ht4
  have mL := keep (len_any w4 _ _ _ _ _ hd4.1.1)
  rw [show (row c4).length = 3 by rw [hr4]; rfl] at mL
  have mR := keep (row_any w4 _ _ hd4)
  rw [show row c4 = [ta, tb, tc] by rw [hr4]; rfl] at mR
  have HT4 := keep ht4
  have HR4 := keep hr4
  have HD4 := keep hd4
  have HF4 := keep (HF3.out.trans hf4)
  clear m3 hd4 hf4 ht4 HF3 hr4 hh4 HT3
  go_wp2_with fail
  refine mL.out.mono ?_
  rintro _ w4' ⟨rfl, e4⟩
  subst e4
  clear mL
  go_wp2_with fail
  refine mR.out.mono ?_
  rintro _ w5 ⟨⟨v, rfl, ho5⟩, hb5⟩
  have hd5 := HD4.out.below hb5
  have m5 := keep (pop_in w5 _ _ false 2 hd5 tc (by rw [HR4.out]; rfl) (by rw [HR4.out]; rfl))
  have HF5 := keep (HF4.out.trans (Fd.of_below hb5))
  have HO5 := keep ho5
  have HLT := keep fun (k : Nat) (hk : OwD w.heap.size c4 k) => HD4.out.1.lt hk
  clear mR ho5 hb5 HD4 HF4 hd5
  go_wp2_with fail
  refine m5.out.mono ?_
  rintro _ w6 ⟨rfl, c6, hr6, hd6, hf6⟩
  have ht6 := rem_one HT4.out hr6
  have ht6 : tx c6 = [[ta, tb]] := ht6
  have hks : Ks w4'.heap.size w6 v [ta, tb, tc] := own_kept HO5.out (fun k hk => hf6.1.2.2 k (own_lt HO5.out hk) (fun e => by have := HLT.out k e; have := (HO5.out.lt k hk).1; omega))
  have hks7 : Ks w4'.heap.size (w6.alloc (.cells #[.string ta, .string tb, .string tc] 9)) v [ta, tb, tc] := own_kept hks (fun k hk => Below.heap_alloc _ _ _ (own_lt hks hk))
  have hkl : Ks w6.heap.size (w6.alloc (.cells #[.string ta, .string tb, .string tc] 9)) (.slice (some ⟨w6.heap.size, 0, none⟩) 3 3) [ta, tb, tc] :=
    ⟨rfl, .inr ⟨w6.heap.size, 3, _, rfl, Nat.le_refl _, heap_alloc_new _ _, Nat.le_refl _, by unfold maxLen; omega, rfl, rfl⟩⟩
  have mS := keep (same_any _ _ _ _ _ _ hks7 hkl)
  have hba : Below w6.heap.size w6 (w6.alloc (.cells #[.string ta, .string tb, .string tc] 9)) := (Below.refl _ _).alloc (Nat.le_refl _) _
  have HBA := keep hba
  have HF6 := keep (HF5.out.trans hf6)
  have HD6 := keep hd6
  have HT6 := keep ht6
  clear m5 hr6 hd6 hf6 ht6 hks hks7 hkl hba HO5 HLT HT4 HR4 HF5
  go_wp2_with fail
  refine mS.out.mono ?_
  rintro _ w7 ⟨rfl, hb7⟩
  have hb67 : Below w6.heap.size w6 w7 := HBA.out.trans (hb7.mono HBA.out.size)
  have hd7 := HD6.out.below hb67
  have mC := keep (chunks_ki w7 _ _ hd7)
  rw [HT6.out] at mC
  have HF7 := keep (HF6.out.trans (Fd.of_below hb67))
  clear mS HBA hb7 hb67 hd7 HD6 HF6
  go_wp2_with fail
  refine mC.out.mono ?_
  rintro _ w8 ⟨⟨v8, rfl, hk8⟩, hb8⟩
  have hks8 : Ki w7.heap.size (w8.alloc (.cells #[.int .i64 2] 3)) v8 [2] := own_kept hk8 (fun k hk => Below.heap_alloc _ _ _ (own_lt hk8 hk))
  have hkl8 : Ki w8.heap.size (w8.alloc (.cells #[.int .i64 2] 3)) (.slice (some ⟨w8.heap.size, 0, none⟩) 1 1) [2] :=
    ⟨rfl, .inr ⟨w8.heap.size, 1, _, rfl, Nat.le_refl _, heap_alloc_new _ _, Nat.le_refl _, by unfold maxLen; omega, rfl, rfl⟩⟩
  have mI := keep (sameInts_any _ _ _ _ _ _ hks8 hkl8)
  have hba : Below w7.heap.size w7 (w8.alloc (.cells #[.int .i64 2] 3)) := hb8.alloc hb8.size _
  have HF8 := keep (HF7.out.trans (Fd.of_below hba))
  clear mC hk8 hb8 hks8 hkl8 hba HF7
  go_wp2_with fail
  refine mI.out.mono ?_
  rintro _ w9 ⟨rfl, hb9⟩
  have HF9 := keep (HF8.out.trans (Fd.of_below hb9))
  clear mI hb9 HF8
  go_wp2
  go_ret
  refine ⟨rfl, HB.out.trans (HF9.out.below HB.out.size (fun k hk => ?_))⟩
  rintro (e | ⟨x, hx, _⟩)
  · omega
  · cases hx
end Go.Proofs.Ytlfkdohajfkhdaa
