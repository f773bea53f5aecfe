/-
  The statement's own walk: the chapter's examples, no deque.
-/
import Derived.Test.YtdmgdbhkgiffhaaDqKnow1
namespace Go.Proofs.Ytdmgdbhkgiffhaa
open Go.RowKit Go.Shelf
attribute [local go_sem] Oper.semAt_some
set_option linter.unusedVariables false
set_option linter.unusedSimpArgs false
abbrev xx : ByteArray := ⟨#[120]⟩
theorem Kn.bel {W : World} {b : Nat} {L : List (List ByteArray)} {w : World} (h : Kn W b L w) : Below W.heap.size W w := by obtain ⟨cs, h⟩ := h; exact h.2.2.2
theorem hs_none {P : World → Prop} (hP : Stb P) {b : Nat} {w : World} (h : Hs b [] w) (hp : P w) : Calls Try.prog 29 #[ptr b] w fun e w' => (∃ ao cp, e = .returned (.slice ao 0 cp)) ∧ P w' := by
  obtain ⟨cs, h1, h2⟩ := h
  refine (chunks_ki w b cs h1).mono ?_
  rintro _ w' ⟨⟨v, rfl, hk⟩, hb⟩
  rw [h2] at hk
  obtain ⟨ao, cp, rfl⟩ := ki_len hk
  exact ⟨⟨ao, cp, rfl⟩, hP _ _ hp hb⟩
/-- while nothing is told -/
def KoI (W W1 : World) (M : Nat → Prop) (m : Nat) (w : World) : Prop := (¬ M W.heap.size ∧ w.heap[W.heap.size]? = some (.cells #[.bool false] 4 (0, 0))) ∧ Below W.heap.size W w ∧ ∀ k, M k → W.heap.size ≤ k
theorem KoI.abd {W W1 : World} : Abd (KoI W W1) := by
  rintro M M' m A B ⟨⟨h1, h1'⟩, h5, h6⟩ hs hx
  exact ⟨keepB hs hx _ _ h1 h1', h5.trans (hs.below h5.size h6), hx.ge h5.size h6⟩
theorem known_lens : ((fillC 33).map fun t => ((t.length : Nat) : Int)) = [32, 1] ∧ ((pushF xx (fillC 33)).map fun t => ((t.length : Nat) : Int)) = [1, 32, 1] ∧ ((insC xx 16 (fillC 32)).map fun t => ((t.length : Nat) : Int)) = [16, 17] ∧ ((insC xx 15 (fillC 32)).map fun t => ((t.length : Nat) : Int)) = [17, 16] ∧ ((insC xx 32 (fillC 32)).map fun t => ((t.length : Nat) : Int)) = [16, 17] ∧ ((insC xx 32 (fillC 33)).map fun t => ((t.length : Nat) : Int)) = [32, 2] ∧ ((insC xx 33 (fillC 33)).map fun t => ((t.length : Nat) : Int)) = [32, 2] ∧ ((trimC 30 34 (fillC 40)).map fun t => ((t.length : Nat) : Int)) = [2, 2] ∧ trimC 5 5 (trimC 30 34 (fillC 40)) = [] := by
  refine ⟨?_, ?_, ?_, ?_, ?_, ?_, ?_, ?_, ?_⟩ <;> kernel_rfl
theorem results_cell1 {P : Program} {fn : Func} {p : Tmp} {ty : TypeId} (h : fn.results = #[.cell p ty]) (tmps : Array Value) (w : World) (a : Addr) (v : Value) (hp : tmps.getD p undef = .pointer (some a)) (hl : (loadVar ty a).run P w = .ok v w) : (results fn tmps).run P w = .ok v w := by
  have hp' : tmps[p]?.getD undef = .pointer (some a) := by simpa using hp
  simp [results, h, hp', asAddr, hl]
set_option maxRecDepth 100000 in
set_option maxHeartbeats 8000000 in
theorem known_walk (W : World) : Calls Try.prog 8 #[] W fun e w' => e = .returned (.bool true) ∧ Below W.heap.size W w' := by
  obtain ⟨W1, hW1⟩ : ∃ x, W.alloc (.cells #[.bool false] 4) = x := ⟨_, rfl⟩
  have hz1 : W1.heap.size = W.heap.size + 1 := by rw [← hW1]; simp
  have hbW : Below W.heap.size W W1 := by rw [← hW1]; exact (Below.refl _ _).alloc (Nat.le_refl _) _
  have hx1 : W1.heap[W.heap.size]? = some (.cells #[.bool false] 4 (0, 0)) := by rw [← hW1]; exact heap_alloc_new _ _
  have HZ1 := keep hz1
  have HBW := keep hbW
  have HX1 := keep hx1
  clear hz1 hbW hx1
  refine callsIn_wide (n := 9) |>.1 (callsIn_of_wp_marks Try.func8 rfl trivial (wpIn_wide.2 ?_) rfl)
  simp only [Try.ntmps8, List.size_toArray, List.length_cons, List.length_nil, Nat.reduceAdd, Nat.reduceSub, Array.replicate_succ, Array.replicate_zero, List.push_toArray, List.append_toArray, List.nil_append, List.cons_append]
  go_wp2_with fail
  refine (wakes_any W1).mono ?_
  rintro _ w1 ⟨rfl, hb1⟩
  have HB := keep hb1
  clear hb1 hW1
  go_wp2_with fail
  refine (filled_any w1 33 (by decide)).mono ?_
  rintro _ w12 ⟨rfl, k2⟩
  have K := keep (kn_base HB.out k2)
  obtain ⟨bw12, hb⟩ : ∃ x, w1.heap.size = x := ⟨_, rfl⟩
  rw [hb] at K
  rw [hb]
  clear k2 hb
  have m := keep (hs_chk Kn.stb K.out.hs K.out [32, 1] known_lens.1 2 #[.int .i64 32, .int .i64 1] rfl rfl (by decide))
  clear K
  go_wp2_with fail
  refine m.out.mono ?_
  rintro _ w13 ⟨aow13, cpw13, rfl, kA, hc⟩
  have MC := keep hc
  clear m hc kA
  go_wp2_with fail
  refine MC.out.mono ?_
  rintro _ w14 ⟨rfl, kB⟩
  have K := keep kB
  clear MC kB
  have m := keep (kn_do K.out (dos_push true xx (by decide) (by decide +kernel)))
  clear K
  go_wp2_with fail
  refine m.out.mono ?_
  rintro _ w15 ⟨rfl, kA⟩
  have K := keep kA
  clear m kA
  have m := keep (hs_chk Kn.stb K.out.hs K.out [1, 32, 1] known_lens.2.1 3 #[.int .i64 1, .int .i64 32, .int .i64 1] rfl rfl (by decide))
  clear K
  go_wp2_with fail
  refine m.out.mono ?_
  rintro _ w16 ⟨aow16, cpw16, rfl, kA, hc⟩
  have MC := keep hc
  clear m hc kA
  go_wp2_with fail
  refine MC.out.mono ?_
  rintro _ w17 ⟨rfl, kB⟩
  have K := keep kB
  clear MC kB
  have m := keep (hs_len K.out.hs (n := 34) (by decide +kernel))
  go_wp2_with fail
  refine m.out.mono ?_
  rintro _ w18 ⟨rfl, e⟩
  obtain rfl := e.symm
  clear m
  have HB := keep K.out.bel
  clear K
  go_wp2_with fail
  refine (filled_any w17 32 (by decide)).mono ?_
  rintro _ w19 ⟨rfl, k2⟩
  have K := keep (kn_base HB.out k2)
  obtain ⟨bw19, hb⟩ : ∃ x, w17.heap.size = x := ⟨_, rfl⟩
  rw [hb] at K
  rw [hb]
  clear k2 hb
  have m := keep (kn_do K.out (dos_ins 16 xx (by decide +kernel) (by decide) (by decide +kernel)))
  clear K
  go_wp2_with fail
  refine m.out.mono ?_
  rintro _ w20 ⟨rfl, kA⟩
  have K := keep kA
  clear m kA
  have m := keep (hs_chk Kn.stb K.out.hs K.out [16, 17] known_lens.2.2.1 2 #[.int .i64 16, .int .i64 17] rfl rfl (by decide))
  clear K
  go_wp2_with fail
  refine m.out.mono ?_
  rintro _ w21 ⟨aow21, cpw21, rfl, kA, hc⟩
  have MC := keep hc
  clear m hc kA
  go_wp2_with fail
  refine MC.out.mono ?_
  rintro _ w22 ⟨rfl, kB⟩
  have K := keep kB
  clear MC kB
  have m := keep (hs_at Kn.stb K.out.hs K.out 16 xx (by kernel_rfl))
  clear K
  go_wp2_with fail
  refine m.out.mono ?_
  rintro _ w23 ⟨rfl, kA⟩
  have K := keep kA
  clear m kA
  have m := keep (hs_at Kn.stb K.out.hs K.out 17 ⟨#[16]⟩ (by kernel_rfl))
  clear K
  go_wp2_with fail
  refine m.out.mono ?_
  rintro _ w24 ⟨rfl, kA⟩
  have K := keep kA
  clear m kA
  have HB := keep K.out.bel
  clear K
  go_wp2_with fail
  refine (filled_any w24 32 (by decide)).mono ?_
  rintro _ w25 ⟨rfl, k2⟩
  have K := keep (kn_base HB.out k2)
  obtain ⟨bw25, hb⟩ : ∃ x, w24.heap.size = x := ⟨_, rfl⟩
  rw [hb] at K
  rw [hb]
  clear k2 hb
  go_wp2_with fail
  refine (filled_any w25 32 (by decide)).mono ?_
  rintro _ w26 ⟨rfl, k2⟩
  have KT := keep (kt_of K.out k2)
  obtain ⟨bw26, hb⟩ : ∃ x, w25.heap.size = x := ⟨_, rfl⟩
  rw [hb] at KT
  rw [hb]
  clear k2 hb
  clear K
  have m := keep (kt_do KT.out (dos_ins 15 xx (by decide +kernel) (by decide) (by decide +kernel)))
  clear KT
  go_wp2_with fail
  refine m.out.mono ?_
  rintro _ w27 ⟨rfl, kA⟩
  have KT := keep kA
  clear m kA
  have m := keep (hs_chk Kt.stb KT.out.hs KT.out [17, 16] known_lens.2.2.2.1 2 #[.int .i64 17, .int .i64 16] rfl rfl (by decide))
  clear KT
  go_wp2_with fail
  refine m.out.mono ?_
  rintro _ w28 ⟨aow28, cpw28, rfl, kA, hc⟩
  have MC := keep hc
  clear m hc kA
  go_wp2_with fail
  refine MC.out.mono ?_
  rintro _ w29 ⟨rfl, kB⟩
  have KT := keep kB
  clear MC kB
  have K := keep KT.out.snd
  clear KT
  have m := keep (kn_do K.out (dos_ins 32 xx (by decide +kernel) (by decide) (by decide +kernel)))
  clear K
  go_wp2_with fail
  refine m.out.mono ?_
  rintro _ w30 ⟨rfl, kA⟩
  have K := keep kA
  clear m kA
  have m := keep (hs_chk Kn.stb K.out.hs K.out [16, 17] known_lens.2.2.2.2.1 2 #[.int .i64 16, .int .i64 17] rfl rfl (by decide))
  clear K
  go_wp2_with fail
  refine m.out.mono ?_
  rintro _ w31 ⟨aow31, cpw31, rfl, kA, hc⟩
  have MC := keep hc
  clear m hc kA
  go_wp2_with fail
  refine MC.out.mono ?_
  rintro _ w32 ⟨rfl, kB⟩
  have K := keep kB
  clear MC kB
  have m := keep (hs_at Kn.stb K.out.hs K.out 32 xx (by kernel_rfl))
  clear K
  go_wp2_with fail
  refine m.out.mono ?_
  rintro _ w33 ⟨rfl, kA⟩
  have K := keep kA
  clear m kA
  have HB := keep K.out.bel
  clear K
  go_wp2_with fail
  refine (filled_any w33 33 (by decide)).mono ?_
  rintro _ w34 ⟨rfl, k2⟩
  have K := keep (kn_base HB.out k2)
  obtain ⟨bw34, hb⟩ : ∃ x, w33.heap.size = x := ⟨_, rfl⟩
  rw [hb] at K
  rw [hb]
  clear k2 hb
  go_wp2_with fail
  refine (filled_any w34 33 (by decide)).mono ?_
  rintro _ w35 ⟨rfl, k2⟩
  have KT := keep (kt_of K.out k2)
  obtain ⟨bw35, hb⟩ : ∃ x, w34.heap.size = x := ⟨_, rfl⟩
  rw [hb] at KT
  rw [hb]
  clear k2 hb
  clear K
  have m := keep (kt_do KT.out (dos_ins 32 xx (by decide +kernel) (by decide) (by decide +kernel)))
  clear KT
  go_wp2_with fail
  refine m.out.mono ?_
  rintro _ w36 ⟨rfl, kA⟩
  have KT := keep kA
  clear m kA
  have m := keep (hs_chk Kt.stb KT.out.hs KT.out [32, 2] known_lens.2.2.2.2.2.1 2 #[.int .i64 32, .int .i64 2] rfl rfl (by decide))
  clear KT
  go_wp2_with fail
  refine m.out.mono ?_
  rintro _ w37 ⟨aow37, cpw37, rfl, kA, hc⟩
  have MC := keep hc
  clear m hc kA
  go_wp2_with fail
  refine MC.out.mono ?_
  rintro _ w38 ⟨rfl, kB⟩
  have KT := keep kB
  clear MC kB
  have K := keep KT.out.snd
  clear KT
  have m := keep (kn_do K.out (dos_ins 33 xx (by decide +kernel) (by decide) (by decide +kernel)))
  clear K
  go_wp2_with fail
  refine m.out.mono ?_
  rintro _ w39 ⟨rfl, kA⟩
  have K := keep kA
  clear m kA
  have m := keep (hs_chk Kn.stb K.out.hs K.out [32, 2] known_lens.2.2.2.2.2.2.1 2 #[.int .i64 32, .int .i64 2] rfl rfl (by decide))
  clear K
  go_wp2_with fail
  refine m.out.mono ?_
  rintro _ w40 ⟨aow40, cpw40, rfl, kA, hc⟩
  have MC := keep hc
  clear m hc kA
  go_wp2_with fail
  refine MC.out.mono ?_
  rintro _ w41 ⟨rfl, kB⟩
  have K := keep kB
  clear MC kB
  have HB := keep K.out.bel
  clear K
  go_wp2_with fail
  refine (filled_any w41 40 (by decide)).mono ?_
  rintro _ w42 ⟨rfl, k2⟩
  have K := keep (kn_base HB.out k2)
  obtain ⟨bw42, hb⟩ : ∃ x, w41.heap.size = x := ⟨_, rfl⟩
  rw [hb] at K
  rw [hb]
  clear k2 hb
  have m := keep (kn_do K.out (dos_trim 30 34))
  clear K
  go_wp2_with fail
  refine m.out.mono ?_
  rintro _ w43 ⟨rfl, kA⟩
  have K := keep kA
  clear m kA
  have m := keep (hs_chk Kn.stb K.out.hs K.out [2, 2] known_lens.2.2.2.2.2.2.2.1 2 #[.int .i64 2, .int .i64 2] rfl rfl (by decide))
  clear K
  go_wp2_with fail
  refine m.out.mono ?_
  rintro _ w44 ⟨aow44, cpw44, rfl, kA, hc⟩
  have MC := keep hc
  clear m hc kA
  go_wp2_with fail
  refine MC.out.mono ?_
  rintro _ w45 ⟨rfl, kB⟩
  have K := keep kB
  clear MC kB
  have m := keep (kn_do K.out (dos_trim 5 5))
  clear K
  go_wp2_with fail
  refine m.out.mono ?_
  rintro _ w46 ⟨rfl, kA⟩
  have K := keep kA
  clear m kA
  rw [known_lens.2.2.2.2.2.2.2.2] at K
  have m := keep (hs_none Kn.stb K.out.hs K.out)
  clear K
  go_wp2_with fail
  refine m.out.mono ?_
  rintro _ w47 ⟨⟨aow47, cpw47, rfl⟩, kA⟩
  have K := keep kA
  clear m kA
  have m := keep (hs_out K.out.hs (-1) xx (.inl (by decide)))
  go_wp2_with fail
  refine m.out.mono ?_
  rintro _ w48 ⟨rfl, e⟩
  obtain rfl := e.symm
  clear m
  have m := keep (hs_out K.out.hs 1 xx (.inr (by decide)))
  go_wp2_with fail
  refine m.out.mono ?_
  rintro _ w49 ⟨rfl, e⟩
  obtain rfl := e.symm
  clear m
  have m := keep (kn_do K.out (dos_ins 0 .empty (by decide +kernel) (by decide) (by decide +kernel)))
  clear K
  go_wp2_with fail
  refine m.out.mono ?_
  rintro _ w50 ⟨rfl, kA⟩
  have K := keep kA
  clear m kA
  have m := keep (kn_do K.out (dos_push false ⟨#[97, 98, 99]⟩ (by decide) (by decide +kernel)))
  clear K
  go_wp2_with fail
  refine m.out.mono ?_
  rintro _ w51 ⟨rfl, kA⟩
  have K := keep kA
  clear m kA
  have m := keep (hs_cost K.out.hs (n := 35) (by decide +kernel))
  go_wp2_with fail
  refine m.out.mono ?_
  rintro _ w52 ⟨rfl, e⟩
  obtain rfl := e.symm
  clear m
  have HB := keep K.out.bel
  clear K
  go_wp2_with fail
  refine (trim_nil w51 0 1).mono ?_
  rintro _ w60 ⟨rfl, hb60⟩
  go_wp2_with fail
  refine (each_none w60).mono ?_
  rintro _ w61 ⟨rfl, hw61⟩
  have hb61 : Below w60.heap.size w60 w61 := by rw [hw61]; exact (Below.refl _ _).alloc (Nat.le_refl _) _
  have hx61 : w61.heap[w60.heap.size]? = some (.cells #[nul] 23 (0, 0)) := by rw [hw61]; exact heap_alloc_new _ _
  have hbA : Below w51.heap.size w51 w61 := hb60.trans (hb61.mono hb60.size)
  have hbB : Below W1.heap.size W1 w61 := HB.out.trans (hbA.mono HB.out.size)
  have HI0 : Kept (KoI W W1 (fun _ => False) 0 w61) :=
    ⟨⟨id, (hbB.block _ (by have := HZ1.out; omega)).trans HX1.out⟩, HBW.out.trans (hbB.mono (by have := HZ1.out; omega)), fun _ h => h.elim⟩
  have HX61 := keep hx61
  have es := fun w => each_some w60.heap.size w
  clear hb60 hw61 hb61 hx61 hbA hbB
  go_wp2
  clear es
  refine (wpIn_wide (n := 9)).1 (range_own (α := Nat × ByteArray) (gf := 47) (lb := #[.pointer (some ⟨w60.heap.size, 0, none⟩)]) (by simp [Act.eval]) (enters_of Try.func47 (by kernel_rfl) rfl) (encs := rtV) (L := []) (fun _ => rfl)
    (fun W7 hb => each_nil w60.heap.size W7 (cell0 ((hb.block _ (Array.getElem?_eq_some_iff.1 HX61.out).1).trans HX61.out)))
    (KoI W W1) (fun _ _ _ _ => False) KoI.abd (fun _ _ _ _ _ _ h _ _ => h) HI0.out (fun _ _ _ _ => trivial) ?round ?done ?stop)
  case stop => exact fun _ _ _ _ _ _ h => h.elim
  case round => intro M' l' m x W7 hI hx; simp at hx
  case done =>
    intro M' D W5 hI hD hDk hM'
    have c0 := cell0 hI.1.2
    have z0 : W5.frozen? ⟨W.heap.size, 0, none⟩ = false := by simp [World.frozen?, hI.1.2]
    have hne : D ≠ W.heap.size := fun e => hI.1.1 (e ▸ hD)
    have HI := keep hI
    have HDK := keep hDk
    have HNE := keep hne
    clear hI hDk hM' HI0 hne
    go_wp2_with fail
    refine (push_nil W5 true xx).mono ?_
    rintro _ w7 ⟨rfl, e⟩
    obtain rfl := e.symm
    go_wp2_with fail
    refine (insert_nil W5 9 xx).mono ?_
    rintro _ w7 ⟨rfl, e⟩
    obtain rfl := e.symm
    go_wp2_with fail
    refine (len_nil W5).mono ?_
    rintro _ w7 ⟨rfl, e⟩
    obtain rfl := e.symm
    go_wp2_with fail
    refine (cost_nil W5).mono ?_
    rintro _ w7 ⟨rfl, e⟩
    obtain rfl := e.symm
    go_wp2
    refine leave_mark ((Below.heap_setCell _ _ _ _ HNE.out).trans HDK.out) ?_
    have hbx : ((W5.setCell ⟨W.heap.size, 0, none⟩ (.bool true)).putObj D (.deferred none)).heap[W.heap.size]? = some (.cells #[.bool true] 4 (0, 0)) := (World.putObj_heap_other (fun e => HNE.out e.symm)).trans (cells_setCell HI.out.1.2)
    have e1 := cell0 hbx
    refine ⟨.bool true, results_cell1 rfl _ _ ⟨W.heap.size, 0, none⟩ _ rfl ?_, rfl, ?_⟩
    · go_simp
    · exact (HI.out.2.1.setCell (p := ⟨W.heap.size, 0, none⟩) (Nat.le_refl _) _).grown (grownBy_putObj' _ D _) (by show W.heap.size ≤ (World.setCell _ _ _).heap.size; rw [set_size]; exact HI.out.2.1.size) (fun k e => by cases e; exact HI.out.2.2 D hD)
end Go.Proofs.Ytdmgdbhkgiffhaa
