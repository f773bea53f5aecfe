/-
  Contracts over this program: no value's plain data; a text and a list that are empty; the statement on no value, walked.
-/
import Derived.Test.YtmgeaanbgjbkcaaGreatVlCalls
import Derived.Test.YtmgeaanbgjbkcaaGreatQDqOps
namespace Go.Proofs.YtmgeaanbgjbkcaaGreat
open Go.RowKit Go.Shelf
set_option linter.unusedVariables false
set_option linter.unusedSimpArgs false
set_option maxRecDepth 100000
namespace Vl
def zd : Dt := ⟨0, { data := #[] }, [], [], []⟩
theorem pln_zero (w : World) : Pln w zV zd := ⟨_, _, _, rfl, ⟨rfl, .inl ⟨rfl, rfl⟩⟩, ⟨rfl, .inl ⟨rfl, rfl⟩⟩, ⟨rfl, .inl ⟨rfl, rfl⟩⟩⟩
set_option maxHeartbeats 400000 in
theorem noplain_any (w : World) : Calls Tryz.prog 385 #[.agg #[]] w fun e w' => (∃ V d', e = .returned V ∧ Pln w' V d' ∧ d' = zd) ∧ Below w.heap.size w w' := by
  go_enter Tryz.func385, Tryz.ntmps385
  go_wp2
  exact bodyPost_ret (v := zV) (by unfold zV; simp [results, Tryz.results385, go_sem]) rfl ⟨⟨_, zd, rfl, pln_zero _, rfl⟩, ((Below.refl _ _).alloc (Nat.le_refl _) _).alloc (by simp) _⟩
theorem plain_none (w : World) : Calls Tryz.prog 33 #[.pointer none] w fun e w' => (∃ V d', e = .returned V ∧ Pln w' V d' ∧ d' = zd) ∧ Below w.heap.size w w' :=
  plain_nothing (fun w' _ => content_none w') (fun w' _ => noplain_any w')
set_option maxHeartbeats 400000 in
theorem text_any (w : World) (s : ByteArray) : Calls Tryz.prog 21 #[.string s] w fun e w' => e = .returned (.pointer (some ⟨w.heap.size, 0, none⟩)) ∧ Hol w' w.heap.size 121 (.string s) ∧ Below w.heap.size w w' := by
  go_enter Tryz.func21, Tryz.ntmps21
  go_wp2
  go_ret
  exact ⟨rfl, heap_alloc_new _ _, (Below.refl _ _).alloc (Nat.le_refl _) _⟩
set_option maxHeartbeats 400000 in
theorem list_nil (w : World) : Calls Tryz.prog 23 #[.pointer none] w fun e w' => (∃ b o, e = .returned (.pointer (some ⟨b, 0, none⟩)) ∧ Hol w' b 124 (.agg #[.pointer (some ⟨o, 0, none⟩)]) ∧ DQ.Dq w' o []) ∧ Below w.heap.size w w' := by
  have mN := DQ.new_any w
  go_enter Tryz.func23, Tryz.ntmps23
  go_wp2_with fail
  refine mN.mono ?_
  rintro _ w1 ⟨rfl, hd, hb, hz⟩
  have HZ := keep hz
  clear hz mN
  go_wp2
  go_ret
  have hb2 : Below w1.heap.size w1 (w1.alloc (.cells #[.iface 124 (.agg #[.pointer (some ⟨w.heap.size, 0, none⟩)])] 117)) := (Below.refl _ _).alloc (Nat.le_refl _) _
  exact ⟨⟨_, _, rfl, heap_alloc_new _ _, hd.below hb2⟩, hb.trans (hb2.mono hb.size)⟩
set_option maxHeartbeats 2000000 in
theorem none_walk (w : World) : Calls Tryz.prog 8 #[] w fun e w' => e = .returned (.bool true) ∧ Below w.heap.size w w' := by
  go_enter Tryz.func8, Tryz.ntmps8
  go_wp2_with fail
  refine (astext_none _).mono ?_
  rintro _ w1 ⟨rfl, rfl⟩
  go_wp2_with fail
  refine (aslist_none _).mono ?_
  rintro _ w2 ⟨rfl, b2⟩
  go_wp2_with fail
  refine (asrecord_none _).mono ?_
  rintro _ w3 ⟨rfl, b3⟩
  replace b3 := b2.trans (b3.mono b2.size)
  clear b2
  go_wp2_with fail
  refine (asflock_none _).mono ?_
  rintro _ w4 ⟨rfl, b4⟩
  replace b4 := b3.trans (b4.mono b3.size)
  clear b3
  go_wp2_with fail
  refine (asranks_none _).mono ?_
  rintro _ w5 ⟨rfl, b5⟩
  replace b5 := b4.trans (b5.mono b4.size)
  clear b4
  go_wp2_with fail
  refine (kind_none _).mono ?_
  rintro _ w6 ⟨rfl, b6⟩
  replace b6 := b5.trans (b6.mono b5.size)
  clear b5
  go_wp2_with fail
  refine (empty_none _).mono ?_
  rintro _ w7 ⟨rfl, rfl⟩
  go_wp2_with fail
  refine (cost_none _).mono ?_
  rintro _ w8 ⟨rfl, b8⟩
  replace b8 := b6.trans (b8.mono b6.size)
  clear b6
  go_wp2_with fail
  refine (copy_none _).mono ?_
  rintro _ w9 ⟨rfl, rfl⟩
  go_wp2_with fail
  refine (plain_none _).mono ?_
  rintro _ wa ⟨⟨V, d, rfl, hP, rfl⟩, ba⟩
  replace ba := b8.trans (ba.mono b8.size)
  have HP := keep hP
  clear b8 hP
  go_wp2_with fail
  refine (plain_same _ _ _ zd HP.out (pln_zero _)).mono ?_
  rintro _ wb ⟨rfl, bb⟩
  replace bb := ba.trans (bb.mono ba.size)
  clear ba HP
  go_wp2_with fail
  refine (text_any _ _).mono ?_
  rintro _ wc ⟨rfl, hc, bc⟩
  replace bc := bb.trans (bc.mono bb.size)
  clear bb
  go_wp2_with fail
  refine (kind_text hc).mono ?_
  rintro _ wd ⟨rfl, bd⟩
  replace bd := bc.trans (bd.mono bc.size)
  clear bc hc
  go_wp2_with fail
  refine (text_any _ _).mono ?_
  rintro _ we ⟨rfl, he, be⟩
  replace be := bd.trans (be.mono bd.size)
  clear bd
  go_wp2_with fail
  refine (empty_text he).mono ?_
  rintro _ wf ⟨rfl, rfl⟩
  clear he
  go_wp2_with fail
  refine (list_nil _).mono ?_
  rintro _ wg ⟨⟨b, o, rfl, hl, hq⟩, bg⟩
  replace bg := be.trans (bg.mono be.size)
  clear be
  have mE := empty_list hl (DQ.len_any _ _ _ _ _ _ hq.1.1)
  clear hl hq
  go_wp2_with fail
  refine mE.mono ?_
  rintro _ wh ⟨rfl, rfl⟩
  clear mE
  go_wp2
  go_ret
  exact ⟨rfl, bg⟩
end Vl
end Go.Proofs.YtmgeaanbgjbkcaaGreat
