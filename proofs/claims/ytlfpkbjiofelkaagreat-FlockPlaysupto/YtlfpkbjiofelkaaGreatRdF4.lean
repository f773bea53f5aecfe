/-
  Contracts over this program: Cost of the document's own flock, and its lists merged.
-/
import Derived.Test.YtlfpkbjiofelkaaGreatRdF6
import Derived.Test.YtlfpkbjiofelkaaGreatRdF2
import Derived.Test.YtlfpkbjiofelkaaGreatRdX0
/-
  Contracts over this program: Inter and Diff of the document's own flocks, some of them none.
-/
namespace Go.Proofs.YtlfpkbjiofelkaaGreat
open Go.RowKit Go.Shelf
set_option linter.unusedVariables false
set_option linter.unusedSimpArgs false
set_option maxRecDepth 100000
namespace Rd
theorem info_fp : (Tryz.prog.info? 28).map (fun i => (i.zero, i.size, i.bytes)) = some (some (.pointer none), 1, 8) := by kernel_rfl
theorem flt_snoc {f : ByteArray → Bool} {l : List ByteArray} {i : Nat} {x : ByteArray} (h : l[i]? = some x) : (l.take (i + 1)).filter f = (l.take i).filter f ++ (if f x then [x] else []) := by
  rw [take_at h, List.filter_append]
  congr 1
  cases hf : f x <;> simp [hf]
/-- in so many of these a text is -/
def cnt (x : ByteArray) (L : List (List ByteArray)) : Nat := L.countP (fun l => isin x l)
theorem cnt_snoc {x : ByteArray} {L : List (List ByteArray)} {i : Nat} {l : List ByteArray} (h : L[i]? = some l) : cnt x (L.take (i + 1)) = cnt x (L.take i) + (if isin x l then 1 else 0) := by
  unfold cnt
  rw [List.take_add_one, h]
  simp [List.countP_append, List.countP_cons]
/-- in all others, or in none -/
def chs (all : Bool) (L : List (List ByteArray)) (x : ByteArray) : Bool := (all && decide (cnt x L = L.length)) || (!all && decide (cnt x L = 0))
def ChE (w : World) (all : Bool) (L : List (List ByteArray)) (e : Ending) (w' : World) : Prop := ∃ u, e = .returned u ∧ Mine w w' u ((L.headD []).filter (chs all L.tail))
set_option maxHeartbeats 1000000 in
theorem chosen_nil (w : World) (v : Value) (all : Bool) (hv : FRow w v []) :
    Calls Tryz.prog 49 #[v, .bool all] w (ChE w all []) := by
  obtain ⟨ao, c, rfl, hc, hao, _⟩ := hv
  have HD : Kept (ChE w all [] (.returned (.slice none 0 0)) w) := ⟨_, rfl, by simp; exact mine0 w⟩
  generalize ChE w all [] = Q at *
  clear hc hao
  simp only [List.length_nil]
  go_enter Tryz.func49, Tryz.ntmps49
  go_wp2
  first | exact HD.out | (go_ret; exact HD.out)
set_option maxHeartbeats 8000000 in
theorem chosen_any (w : World) (v : Value) (all : Bool) (l0 : List ByteArray) (L : List (List ByteArray)) (hv : FRow w v (l0 :: L)) (hm : L.length ≤ 1000000000000) (hl : l0.length ≤ 2600000000000) :
    Calls Tryz.prog 49 #[v, .bool all] w (ChE w all (l0 :: L)) := by
  have HV := keep hv
  obtain ⟨ao, c, rfl, hc, hao, h4⟩ := hv
  obtain ⟨g, rfl⟩ := hao (by simp)
  obtain ⟨p, cp, fo⟩ := h4 g 0 l0 rfl (by simp)
  obtain ⟨pa, rfl⟩ := fo.ptr
  have MM := keep (members_o fo)
  obtain ⟨n, hln⟩ : ∃ n, (l0 :: L).length = n := ⟨_, rfl⟩
  rw [hln] at HV hc ⊢
  have hln' : L.length + 1 = n := by simpa using hln
  have HL := keep hln'
  have HMM := keep hm
  have HLL := keep hl
  have z0 : (0 : Int) < (n : Int) := by have := HL.out; omega
  have z1 : ¬ (n : Int) = 0 := by omega
  have z2 : ((n : Int) == 0) = false := by rw [beq_eq_false_iff_ne]; exact z1
  have z3 : decide ((n : Int) = 0) = false := decide_eq_false z1
  generalize hQd : ChE w all (l0 :: L) = Q
  have HQ : Kept (∀ u w', Mine w w' u ((l0.take l0.length).filter (chs all L)) → Q (.returned u) w') := by
    rw [← hQd]
    exact fun u w' h1 => ⟨u, rfl, by rwa [List.take_of_length_le (Nat.le_refl _)] at h1⟩
  clear hao h4 hm hl hln hln' hQd fo
  go_enter Tryz.func49, Tryz.ntmps49
  go_wp2_with fail
  refine MM.out.mono ?_
  rintro _ w1 ⟨u1, rfl, hm1⟩
  obtain ⟨lo, lc, hu, hlo⟩ := hm1.1.form
  obtain ⟨q, hlq⟩ : ∃ q, l0.length = q := ⟨_, rfl⟩
  rw [hlq] at hu hlo HQ HLL
  subst hu
  have HLO := keep hlo
  have HLQ := keep hlq
  have M1 := keep hm1
  clear hm1 hlo hlq MM cp
  obtain ⟨m, hLm⟩ : ∃ m, L.length = m := ⟨_, rfl⟩
  have HLm := keep hLm
  have hnm : n = m + 1 := by have := HL.out; omega
  have hmm : m ≤ 1000000000000 := by have := HMM.out; omega
  clear hLm
  obtain ⟨i0', hi0, hz0, hz1, hz2⟩ := info_parts info_fp
  have uT := Tryz.underlying42
  obtain ⟨A, hA, hs1⟩ : ∃ A : Addr, (A = ⟨g, 1, none⟩ ∨ m = 0) ∧ ∀ w, (Instr.slice 42 (.slice (some ⟨g, 0, none⟩) n c) (some (.int .i64 1)) none none).run Tryz.prog w = .ok (.slice (some A) m (c - 1)) w := by
    refine ⟨if c = 1 then ⟨g, 0, none⟩ else ⟨g, 1, none⟩, ?_, fun w => ?_⟩
    · by_cases hcp : c = 1
      · exact .inr (by omega)
      · rw [if_neg hcp]; exact .inl rfl
    · rw [show (Value.int .i64 1) = .int .i64 ((1 : Nat) : Int) from rfl, sliceRun w _ _ uT i0' hi0 ⟨g, 0, none⟩ n c 1 n c _ _ _ (.inl ⟨rfl, rfl⟩) (.inl ⟨rfl, rfl, rfl⟩) (.inr ⟨rfl, by omega⟩), hz1, addAt, Nat.zero_add, Nat.one_mul, show n - 1 = m by omega]
  have HA := keep hA
  obtain ⟨c1, hc1⟩ : ∃ c1, c - 1 = c1 := ⟨_, rfl⟩
  rw [hc1] at hs1
  have hwl : IntKind.i64.wrap ((n : Int) - 1) = (m : Int) := by rw [IntKind.wrap_i64]; omega
  clear hi0 hz0 hz1 hz2 uT hA hc1 hc hnm
  go_wp2
  go_loopg [5, 19] q (fun kx s5 s19 wr => ∃ i : Nat, s19 = .int .i64 i ∧ i ≤ q ∧ q - i ≤ kx ∧ ∃ co cn cc, s5 = .slice co cn cc ∧ Kept (Mine w1 wr (.slice co cn cc) ((l0.take i).filter (chs all L))))
  case atStart => exact ⟨0, rfl, Nat.zero_le _, by omega, none, 0, 0, rfl, by simp only [List.take_zero, List.filter_nil]; exact mine0 w1⟩
  case round =>
    obtain ⟨i, rfl, hin, hg, co, cn, cc, rfl, KM⟩ := hrel
    by_cases hlt : i < q
    · obtain ⟨x, hx⟩ : ∃ x, l0[i]? = some x := ⟨_, List.getElem?_eq_getElem (by have := HLQ.out; omega)⟩
      obtain ⟨gl, rfl⟩ := HLO.out (by omega)
      have e0 := (M1.out.1.bel KM.out.2.2).at hx
      have i0 : (0 : Int) ≤ (i : Int) := by omega
      have i1 : (i : Int) < (q : Int) := by omega
      have hwi : IntKind.i64.wrap ((i : Int) + 1) = (i : Int) + 1 := by have := HLL.out; rw [IntKind.wrap_i64]; omega
      have HX := keep hx
      have BW := keep (bup M1.out.2.2 KM.out.2.2)
      clear hx
      go_wp2
      go_loopg [8, 26] m (fun kx2 s8 s26 wr2 => ∃ j : Nat, s26 = .int .i64 j ∧ j ≤ m ∧ m - j ≤ kx2 ∧ s8 = .int .i64 ((cnt x (L.take j) : Nat) : Int) ∧ Kept (wr2 = wr))
      case atStart => exact ⟨0, rfl, Nat.zero_le _, by omega, rfl, rfl⟩
      case round =>
        obtain ⟨j, rfl, hjn, hgj, rfl, EW⟩ := hrel
        obtain rfl := EW.out
        by_cases hjm : j < m
        · obtain ⟨lj, hlj⟩ : ∃ l, L[j]? = some l := ⟨_, List.getElem?_eq_getElem (by have := HLm.out; omega)⟩
          have hA : A = ⟨g, 1, none⟩ := by rcases HA.out with h | h; exact h; omega
          subst hA
          obtain ⟨ao', c', q1, q2, q3, q4⟩ := HV.out.below BW.out
          have q5 : (l0 :: L).length = n := by have := HL.out; simp; omega
          rw [q5] at q1
          cases q1
          obtain ⟨p, cp, fo⟩ := q4 g (1 + j) lj rfl (by rw [Nat.add_comm]; simpa using hlj)
          obtain ⟨pa', rfl⟩ := fo.ptr
          have MI := keep (in_o fo x)
          have j0 : (0 : Int) ≤ (j : Int) := by omega
          have j1 : (j : Int) < (m : Int) := by omega
          have hwj : IntKind.i64.wrap ((j : Int) + 1) = (j : Int) + 1 := by rw [IntKind.wrap_i64]; omega
          have HLJ := keep hlj
          have hcs := cnt_snoc (x := x) hlj
          have hcl : cnt x (L.take j) ≤ j := Nat.le_trans List.countP_le_length (by rw [List.length_take]; omega)
          obtain ⟨C, hC⟩ : ∃ C, cnt x (L.take j) = C := ⟨_, rfl⟩
          rw [hC] at hcs hcl ⊢
          have HCS := keep hcs
          have hwc : IntKind.i64.wrap ((C : Int) + 1) = (C : Int) + 1 := by rw [IntKind.wrap_i64]; omega
          clear hlj hcs hcl hC q2 q3 q4 q5 fo
          go_wp2_with fail
          refine MI.out.mono ?_
          rintro _ w5 ⟨rfl, hw5⟩
          obtain rfl := hw5.symm
          clear MI
          cases hin2 : isin x lj
          · have HC2 := keep (show cnt x (L.take (j + 1)) = C by have h := HCS.out; rw [hin2] at h; simpa using h)
            go_wp2
            go_roundg (m - (j + 1))
            case measure => omega
            case rel => exact ⟨j + 1, by simp, by omega, Nat.le_refl _, by rw [HC2.out], rfl⟩
          · have HC2 := keep (show cnt x (L.take (j + 1)) = C + 1 by have h := HCS.out; rw [hin2] at h; simpa using h)
            go_wp2
            go_roundg (m - (j + 1))
            case measure => omega
            case rel => exact ⟨j + 1, by simp, by omega, Nat.le_refl _, by rw [HC2.out]; simp, rfl⟩
        · obtain rfl : j = m := by omega
          obtain ⟨C, hC⟩ : ∃ C, cnt x L = C := ⟨_, rfl⟩
          have hC' : cnt x (L.take j) = C := by rw [List.take_of_length_le (by have := HLm.out; omega)]; exact hC
          rw [hC']
          have HC := keep hC
          clear hC hC'
          cases all with
          | true =>
            by_cases hC : C = j
            · have CH := keep (show chs true L x = true by unfold chs; rw [HC.out, HLm.out]; simp [hC])
              have e1 : (C : Int) = (j : Nat) := by omega
              have e2 : ((C : Int) == ((j : Nat) : Int)) = true := by rw [beq_iff_eq]; exact e1
              have e3 : decide ((C : Int) = ((j : Nat) : Int)) = true := decide_eq_true e1
              subst hC
              have hst := flt_snoc (f := chs true L) HX.out
              rw [if_pos CH.out] at hst
              obtain ⟨W4, hW4⟩ : ∃ W, wr.alloc (.cells #[.string x] 9) = W := ⟨_, rfl⟩
              have b4 : Below wr.heap.size wr W4 := by rw [← hW4]; exact (Below.refl _ wr).alloc (Nat.le_refl _) _
              have g4 : W4.heap[wr.heap.size]? = some (.cells #[.string x] 9 (0, 0)) := by rw [← hW4]; exact heap_alloc_new _ _
              have hfl : ((l0.take i).filter (chs true L)).length ≤ i := Nat.le_trans (List.length_filter_le _ _) (by rw [List.length_take]; omega)
              obtain ⟨eo, en, ec, W5, a1, m5, _⟩ := mine_push (x := x) (mine_bel KM.out b4) g4 (by have := HLL.out; omega)
              have M5 : Kept (Mine w1 W5 (.slice eo en ec) ((l0.take (i + 1)).filter (chs true L))) := by rw [hst]; exact m5
              have A1 := keep a1
              clear hst b4 g4 hfl a1 m5
              go_wp2_with (at_builtin; refine wpList_app_run rfl _ _ _ _ rfl _ _ _ rfl rfl A1.out ?_)
              go_roundg (q - (i + 1))
              case measure => omega
              case rel => exact ⟨i + 1, by simp, by omega, Nat.le_refl _, eo, en, ec, rfl, M5.out⟩
            · have CH := keep (show chs true L x = false by unfold chs; rw [HC.out, HLm.out]; simp [hC])
              have e1 : ¬ (C : Int) = ((j : Nat) : Int) := by omega
              have e2 : ((C : Int) == ((j : Nat) : Int)) = false := by rw [beq_eq_false_iff_ne]; exact e1
              have e3 : decide ((C : Int) = ((j : Nat) : Int)) = false := decide_eq_false e1
              try simp only [Int.natCast_zero, Int.ofNat_zero, Nat.cast_zero] at e1 e2 e3
              have hst := flt_snoc (f := chs true L) HX.out
              rw [if_neg (by rw [CH.out]; simp), List.append_nil] at hst
              have M5 : Kept (Mine w1 wr (.slice co cn cc) ((l0.take (i + 1)).filter (chs true L))) := by rw [hst]; exact KM.out
              clear hst
              go_wp2
              go_roundg (q - (i + 1))
              case measure => omega
              case rel => exact ⟨i + 1, by simp, by omega, Nat.le_refl _, co, cn, cc, rfl, M5.out⟩
          | false =>
            by_cases hC : C = 0
            · have CH := keep (show chs false L x = true by unfold chs; rw [HC.out, HLm.out]; simp [hC])
              have e1 : (C : Int) = (0 : Nat) := by omega
              have e2 : ((C : Int) == ((0 : Nat) : Int)) = true := by rw [beq_iff_eq]; exact e1
              have e3 : decide ((C : Int) = ((0 : Nat) : Int)) = true := decide_eq_true e1
              subst hC
              have hst := flt_snoc (f := chs false L) HX.out
              rw [if_pos CH.out] at hst
              obtain ⟨W4, hW4⟩ : ∃ W, wr.alloc (.cells #[.string x] 9) = W := ⟨_, rfl⟩
              have b4 : Below wr.heap.size wr W4 := by rw [← hW4]; exact (Below.refl _ wr).alloc (Nat.le_refl _) _
              have g4 : W4.heap[wr.heap.size]? = some (.cells #[.string x] 9 (0, 0)) := by rw [← hW4]; exact heap_alloc_new _ _
              have hfl : ((l0.take i).filter (chs false L)).length ≤ i := Nat.le_trans (List.length_filter_le _ _) (by rw [List.length_take]; omega)
              obtain ⟨eo, en, ec, W5, a1, m5, _⟩ := mine_push (x := x) (mine_bel KM.out b4) g4 (by have := HLL.out; omega)
              have M5 : Kept (Mine w1 W5 (.slice eo en ec) ((l0.take (i + 1)).filter (chs false L))) := by rw [hst]; exact m5
              have A1 := keep a1
              clear hst b4 g4 hfl a1 m5
              go_wp2_with (at_builtin; refine wpList_app_run rfl _ _ _ _ rfl _ _ _ rfl rfl A1.out ?_)
              go_roundg (q - (i + 1))
              case measure => omega
              case rel => exact ⟨i + 1, by simp, by omega, Nat.le_refl _, eo, en, ec, rfl, M5.out⟩
            · have CH := keep (show chs false L x = false by unfold chs; rw [HC.out, HLm.out]; simp [hC])
              have e1 : ¬ (C : Int) = ((0 : Nat) : Int) := by omega
              have e2 : ((C : Int) == ((0 : Nat) : Int)) = false := by rw [beq_eq_false_iff_ne]; exact e1
              have e3 : decide ((C : Int) = ((0 : Nat) : Int)) = false := decide_eq_false e1
              try simp only [Int.natCast_zero, Int.ofNat_zero, Nat.cast_zero] at e1 e2 e3
              have hst := flt_snoc (f := chs false L) HX.out
              rw [if_neg (by rw [CH.out]; simp), List.append_nil] at hst
              have M5 : Kept (Mine w1 wr (.slice co cn cc) ((l0.take (i + 1)).filter (chs false L))) := by rw [hst]; exact KM.out
              clear hst
              go_wp2
              go_roundg (q - (i + 1))
              case measure => omega
              case rel => exact ⟨i + 1, by simp, by omega, Nat.le_refl _, co, cn, cc, rfl, M5.out⟩
    · obtain rfl : i = q := by omega
      have HF : Kept (Q (.returned (.slice co cn cc)) wr) := HQ.out _ _ (mine_up M1.out.2.2 KM.out)
      go_wp2
      first | exact HF.out | (go_ret; exact HF.out)
end Rd
end Go.Proofs.YtlfpkbjiofelkaaGreat

/-
  Contracts over this program: Delete of the document's own flock.
-/
namespace Go.Proofs.YtlfpkbjiofelkaaGreat
open Go.RowKit Go.Shelf
set_option linter.unusedVariables false
set_option linter.unusedSimpArgs false
set_option maxRecDepth 100000
namespace Rd
section
variable {h : ByteArray → Nat} {N N' : Nat} {w w1 w' W : World} {r r' : Roles} {R b seed : Nat} {u v : Value} {l l' : List ByteArray} {s s' : Sf} {KV KV' : List (ByteArray × Int)}
theorem rfdel_nil (w : World) (x : ByteArray) : Calls Tryz.prog 26 #[.pointer none, .string x] w fun e w' => e = .returned (.bool false) ∧ w' = w := by
  go_enter Tryz.func26, Tryz.ntmps26
  go_wp2
  go_ret
  exact ⟨rfl, rfl⟩
/-- what Delete leaves -/
def Gone (h : ByteArray → Nat) (N : Nat) (w : World) (r : Roles) (R b seed : Nat) (v : Value) (l : List ByteArray) (s : Sf) (KV : List (ByteArray × Int)) (x : ByteArray) (e : Ending) (w' : World) : Prop :=
  (x ∉ l ∧ e = .returned (.bool false) ∧ ∃ r', RF h N w' r' R b seed v l (Dc.step h s) KV ∧ Fr w (rf r R v) w' (rf r' R v)) ∨
  (x ∈ l ∧ e = .returned (.bool true) ∧ ∃ r' u, RF h N w' r' R b seed u (filt x l) (Dc.delete h (Dc.step h s) x).1 (Dc.without x KV) ∧ Fr w (rf r R v) w' (rf r' R u))
set_option maxHeartbeats 4000000 in
theorem rfdel_any (hH : RHashIs seed h) (x : ByteArray) (hx : x.size ≤ maxLen) (hf : RF h N w r R b seed v l s KV) (hN : N ≤ 2600000000000) :
    Calls Tryz.prog 26 #[.pointer (some ⟨R, 0, none⟩), .string x] w (Gone h N w r R b seed v l s KV x) := by
  have MG := keep (get_any hH w r b s KV x hf.1.1 hN)
  obtain ⟨c0, c1, c2, cf⟩ := tri hf.1.2.2.1
  have HL : Kept (l.length ≤ 2600000000000) := by have := hf.few; have := hf.1.1.few; show l.length ≤ _; omega
  have HF := keep hf
  have HN := keep hN
  have HX := keep hx
  generalize hQd : Gone h N w r R b seed v l s KV x = Q
  have HQ' : Kept (∀ e w', Gone h N w r R b seed v l s KV x e w' → Q e w') := by rw [← hQd]; exact fun _ _ h => h
  clear hf c0 c1 cf hN hx hQd
  go_enter Tryz.func26, Tryz.ntmps26
  go_wp2_with fail
  refine MG.out.mono ?_
  rintro _ w1 ⟨rfl, r1, hd1, hf1⟩
  obtain ⟨q1, q2⟩ := HF.out.1.dict hd1 hf1
  have MP := keep (place10_any x q1 HL.out)
  have Q1 := keep q1
  have Q2 := keep q2
  clear MG hd1 hf1 q1 q2 c2
  go_wp2_with fail
  refine MP.out.mono ?_
  rintro _ w2 ⟨⟨i, o, rfl, hp⟩, hw⟩
  obtain rfl := hw.symm
  have HP := keep hp
  have hmem := hp.mem HF.out.2.1
  clear hp MP
  cases o with
  | false =>
    have HD : Kept (Q (.returned (.bool false)) w1) := HQ'.out _ _ (.inl ⟨isin_not.1 hmem.symm, rfl, r1, ⟨Q1.out, HF.out.2⟩, Q2.out⟩)
    clear hmem
    go_wp2
    first | exact HD.out | (go_ret; exact HD.out)
  | true =>
    have HM : Kept (x ∈ l) := isin_iff.1 hmem.symm
    clear hmem
    obtain ⟨ao, cp, hv, _⟩ := Q1.out.2.2.2.1.form
    obtain ⟨n, hln⟩ : ∃ n, l.length = n := ⟨_, rfl⟩
    rw [hln] at hv
    subst hv
    obtain ⟨d0, d1, d2, df⟩ := tri Q1.out.2.2.1
    have HLN := keep hln
    have MS := keep (delete_any hH w1 r1 b (Dc.step h s) KV x Q1.out.1 HN.out HX.out)
    clear d0 df hln d1
    go_wp2_with fail
    refine MS.out.mono ?_
    rintro _ w3 ⟨rfl, r3, hd3, hf3⟩
    obtain ⟨p1, p2⟩ := Q1.out.dict hd3 hf3
    obtain ⟨hix, hfi⟩ := HP.out.del HF.out.2.1
    have hil : i + 1 ≤ l.length := (List.getElem?_eq_some_iff.1 hix).1
    obtain ⟨o1, k1, z1, hs1, ht1⟩ := cut_pre (p := i) p1.2.2.2.1 (by omega)
    obtain ⟨u1, W4, a1, m1, _⟩ := mine_app (mine0 w3) (ht1 w3 p1.2.2.2.1) (by have := HL.out; simp only [List.length_nil, List.length_take]; omega)
    rw [List.nil_append] at m1
    obtain ⟨o4, n4, z4, rfl⟩ := mine_slice m1
    have b5 : Below w3.heap.size w3 W4 := m1.2.2
    obtain ⟨o6, n6, z6, hs2, ht2⟩ := cut_suf p1.2.2.2.1 hil
    obtain ⟨u6, W6, a3, m3⟩ := ht2 w3 W4 _ _ m1 (p1.below b5).2.2.2.1 (by have := HL.out; simp only [List.length_take]; omega)
    obtain ⟨o7, n7, z7, rfl⟩ := mine_slice m3
    rw [hfi] at m3
    obtain ⟨W7, hW7⟩ : ∃ x', W6.setCell ⟨R, 1, none⟩ (.slice o7 n7 z7) = x' := ⟨_, rfl⟩
    obtain ⟨y1, y2⟩ := p1.lay m3 hW7
    have HD : Kept (Q (.returned (.bool true)) W7) := HQ'.out _ _ (.inr ⟨HM.out, rfl, r3, .slice o7 n7 z7, ⟨y1, List.Pairwise.filter _ HF.out.2.1, by
      rw [← filt_keys]; exact HF.out.2.2.filter _⟩, (Q2.out.trans p2).trans y2⟩)
    obtain ⟨j0, j1, j2, jf⟩ := tri p1.2.2.1
    obtain ⟨k50, k51, k52, k5f⟩ := tri (p1.below b5).2.2.1
    obtain ⟨k60, k61, k62, k6f⟩ := tri (p1.below m3.2.2).2.2.1
    obtain ⟨q1, hq1⟩ : ∃ q : Int, (i : Int) + 1 = q := ⟨_, rfl⟩
    have hwq : IntKind.i64.wrap ((i : Int) + 1) = q1 := by have := HL.out; rw [IntKind.wrap_i64]; omega
    rw [show ((i + 1 : Nat) : Int) = (i : Int) + 1 by omega, hq1] at hs2
    have A1 := keep a1
    have A3 := keep a3
    clear MS hd3 hf3 p1 p2 hil hix hfi ht1 a1 m1 b5 ht2 a3 m3 y1 y2 j0 j2 jf k50 k52 k5f k60 k62 d2 hq1
    go_wp2_with (at_builtin; first | refine wpList_app_run rfl _ _ _ _ rfl _ _ _ rfl rfl A1.out ?_ | refine wpList_app_run rfl _ _ _ _ rfl _ _ _ rfl rfl A3.out ?_)
    first | exact HD.out | (go_ret; exact HD.out)
end
end Rd
end Go.Proofs.YtlfpkbjiofelkaaGreat

/-
  Contracts over this program: Inter, Diff and Copy of the document's own flocks.
-/
namespace Go.Proofs.YtlfpkbjiofelkaaGreat
open Go.RowKit Go.Shelf
set_option linter.unusedVariables false
set_option linter.unusedSimpArgs false
set_option maxRecDepth 100000
namespace Rd
theorem chosen_o (w : World) (v : Value) (all : Bool) (L : List (List ByteArray)) (hv : FRow w v L) (hm : L.length ≤ 1000000000000) (hl : ∀ l ∈ L, l.length ≤ 2600000000000) :
    Calls Tryz.prog 49 #[v, .bool all] w (ChE w all L) := by
  cases L with
  | nil => exact chosen_nil w v all hv
  | cons l0 L => exact chosen_any w v all l0 L hv (by simp at hm; omega) (hl l0 (by simp))
theorem FRow.form {w : World} {v : Value} {L : List (List ByteArray)} (h : FRow w v L) : ∃ o n c, v = .slice o n c := by
  obtain ⟨ao, c, rfl, _⟩ := h
  exact ⟨_, _, _, rfl⟩
set_option maxHeartbeats 1000000 in
theorem inter_any (w : World) (v : Value) (L : List (List ByteArray)) (hv : FRow w v L) (hm : L.length ≤ 1000000000000) (hl : ∀ l ∈ L, l.length ≤ 2600000000000) :
    Calls Tryz.prog 19 #[v] w (ChE w true L) := by
  have MC := keep (chosen_o w v true L hv hm hl)
  obtain ⟨o, n, c, rfl⟩ := hv.form
  clear hv hm hl
  go_enter Tryz.func19, Tryz.ntmps19
  go_wp2_with fail
  refine MC.out.mono ?_
  rintro _ w1 ⟨u, rfl, hu⟩
  have HU : Kept (ChE w true L (.returned u) w1) := ⟨u, rfl, hu⟩
  generalize ChE w true L = Q at *
  clear hu MC
  go_wp2
  first | exact HU.out | (go_ret; exact HU.out)
set_option maxHeartbeats 1000000 in
theorem diff_any (w : World) (v : Value) (L : List (List ByteArray)) (hv : FRow w v L) (hm : L.length ≤ 1000000000000) (hl : ∀ l ∈ L, l.length ≤ 2600000000000) :
    Calls Tryz.prog 20 #[v] w (ChE w false L) := by
  have MC := keep (chosen_o w v false L hv hm hl)
  obtain ⟨o, n, c, rfl⟩ := hv.form
  clear hv hm hl
  go_enter Tryz.func20, Tryz.ntmps20
  go_wp2_with fail
  refine MC.out.mono ?_
  rintro _ w1 ⟨u, rfl, hu⟩
  have HU : Kept (ChE w false L (.returned u) w1) := ⟨u, rfl, hu⟩
  generalize ChE w false L = Q at *
  clear hu MC
  go_wp2
  first | exact HU.out | (go_ret; exact HU.out)
/-- a table into which these have come, one behind the other -/
def copyS (h : ByteArray → Nat) (l : List ByteArray) : Sf := l.foldl (fun s x => (Dc.set h (Dc.step h s) x ()).1) Dc.none0
theorem copyS_snoc {h : ByteArray → Nat} {l : List ByteArray} {i : Nat} {x : ByteArray} (hx : l[i]? = some x) : copyS h (l.take (i + 1)) = (Dc.set h (Dc.step h (copyS h (l.take i))) x ()).1 := by
  unfold copyS
  rw [take_at hx, List.foldl_append]
  rfl
theorem rise_eq : ∀ {l m : List ByteArray}, Rise l → Rise m → l.Perm m → l = m := by
  intro l
  induction l with
  | nil => intro m _ _ h; exact (List.nil_perm.1 h).symm
  | cons a l ih =>
    intro m hl hm h
    cases m with
    | nil => exact absurd h.length_eq (by simp)
    | cons b m =>
      unfold Rise at hl hm
      rw [List.pairwise_cons] at hl hm
      have hab : a = b := by
        have ha : a ∈ b :: m := h.subset (by simp)
        have hb : b ∈ a :: l := h.symm.subset (by simp)
        rcases List.mem_cons.1 ha with e | e
        · exact e
        · rcases List.mem_cons.1 hb with e' | e'
          · exact e'.symm
          · exact absurd (List.lt_trans (hm.1 a e) (hl.1 b e')) (List.lt_irrefl _)
      subst hab
      rw [ih hl.2 hm.2 ((List.perm_cons a).1 h)]
theorem rise_new {l : List ByteArray} {i : Nat} {x : ByteArray} (hr : Rise l) (hx : l[i]? = some x) : x ∉ l.take i := fun hm => by
  obtain ⟨t, ht⟩ := List.mem_iff_getElem?.1 hm
  rw [List.getElem?_take] at ht
  split at ht
  · obtain ⟨p1, e1⟩ := List.getElem?_eq_some_iff.1 hx
    obtain ⟨p2, e2⟩ := List.getElem?_eq_some_iff.1 ht
    have := (List.pairwise_iff_getElem.1 hr) t i p2 p1 (by assumption)
    rw [e1, e2] at this
    exact List.lt_irrefl _ this
  · cases ht
/-- a copy: all its blocks are new -/
def CpE (h : ByteArray → Nat) (w : World) (seed : Nat) (l : List ByteArray) (e : Ending) (w' : World) : Prop :=
  ∃ R r b v KV, e = .returned (.pointer (some ⟨R, 0, none⟩)) ∧ Below w.heap.size w w' ∧ RF h l.length w' r R b seed v l (copyS h l) KV ∧ ∀ k, rf r R v k ≠ (0, 0) → w.heap.size ≤ k
set_option maxHeartbeats 1000000 in
theorem rfcopy_nil (h : ByteArray → Nat) (w : World) : Calls Tryz.prog 8 #[.pointer none] w (CpE h w 0 []) := by
  have MN := keep (rfnew_any h w 0 0)
  go_enter Tryz.func8, Tryz.ntmps8
  go_wp2_with fail
  refine MN.out.mono ?_
  rintro _ w1 ⟨R, r, b, rfl, hb, hf, hk⟩
  have HD : Kept (CpE h w 0 [] (.returned (.pointer (some ⟨R, 0, none⟩))) w1) := ⟨R, r, b, _, [], rfl, hb, hf, hk⟩
  generalize CpE h w 0 [] = Q at *
  clear hb hf hk MN
  go_wp2
  first | exact HD.out | (go_ret; exact HD.out)
set_option maxHeartbeats 4000000 in
theorem rfcopy_any {h : ByteArray → Nat} {N : Nat} {w : World} {r : Roles} {R b seed : Nat} {v : Value} {l : List ByteArray} {s : Sf} {KV : List (ByteArray × Int)} (hH : RHashIs seed h) (hf : RFm h N w r R b seed v l s KV) (hr : Rise l) (hn : l.length ≤ 1048576) (hs : ∀ x ∈ l, x.size ≤ 1048576) :
    Calls Tryz.prog 8 #[.pointer (some ⟨R, 0, none⟩)] w (CpE h w seed l) := by
  have MN := keep (rfnew_any h w seed 0)
  have HT := keep hf.2.2.2.1
  have HC := keep hf.2.2.1
  obtain ⟨ao, cp, rfl, hao⟩ := hf.2.2.2.1.form
  obtain ⟨c0, c1, c2, cf⟩ := tri hf.2.2.1
  obtain ⟨n, hln⟩ : ∃ n, l.length = n := ⟨_, rfl⟩
  rw [hln] at c1 hao hn HT HC
  have HAO := keep hao
  have HL := keep hln
  have HN := keep hn
  have HS := keep hs
  have HR := keep hr
  generalize hQd : CpE h w seed l = Q
  have HQ : Kept (∀ R' r' b' v' KV' w', Below w.heap.size w w' → RF h n w' r' R' b' seed v' (l.take n) (copyS h (l.take n)) KV' → (∀ k, rf r' R' v' k ≠ (0, 0) → w.heap.size ≤ k) → Q (.returned (.pointer (some ⟨R', 0, none⟩))) w') := by
    rw [← hQd]
    exact fun R' r' b' v' KV' w' h1 h2 h3 => ⟨R', r', b', v', KV', rfl, h1, by rw [List.take_of_length_le (by omega)] at h2; rw [hln]; exact h2, h3⟩
  clear hf hao hn hs hr hln hQd c2 cf
  go_enter Tryz.func8, Tryz.ntmps8
  go_wp2_with fail
  refine MN.out.mono ?_
  rintro _ w1 ⟨R1, r1, b1, rfl, hb1, hf1, hk1⟩
  have M1 : Kept (∃ r' v' KV', RF h 0 w1 r' R1 b1 seed v' (l.take 0) (copyS h (l.take 0)) KV' ∧ Below w.heap.size w w1 ∧ ∀ k, rf r' R1 v' k ≠ (0, 0) → w.heap.size ≤ k) := ⟨r1, _, [], hf1, hb1, hk1⟩
  obtain ⟨d0, d1, d2, df⟩ := tri ((hb1.block R (Array.getElem?_eq_some_iff.1 HC.out).1).trans HC.out)
  clear MN hb1 hf1 hk1 c0 c1 d0 d2 df
  go_wp2
  go_loopg [19] n (fun kx s19 wr => ∃ i : Nat, s19 = .int .i64 i ∧ i ≤ n ∧ n - i ≤ kx ∧ Kept (∃ r' v' KV', RF h i wr r' R1 b1 seed v' (l.take i) (copyS h (l.take i)) KV' ∧ Below w.heap.size w wr ∧ ∀ k, rf r' R1 v' k ≠ (0, 0) → w.heap.size ≤ k))
  case atStart => exact ⟨0, rfl, Nat.zero_le _, by omega, M1.out⟩
  case round =>
    obtain ⟨i, rfl, hin, hg, KM⟩ := hrel
    by_cases hlt : i < n
    · obtain ⟨x, hx⟩ : ∃ x, l[i]? = some x := ⟨_, List.getElem?_eq_getElem (by have := HL.out; omega)⟩
      obtain ⟨g, rfl⟩ := HAO.out (by omega)
      obtain ⟨r', v', KV', hF, hB, hK⟩ := KM.out
      have e0 := (HT.out.bel hB).at hx
      have i0 : (0 : Int) ≤ (i : Int) := by omega
      have i1 : (i : Int) < (n : Int) := by omega
      have hwi : IntKind.i64.wrap ((i : Int) + 1) = (i : Int) + 1 := by have := HN.out; rw [IntKind.wrap_i64]; omega
      have MA := keep (rfadd_any hH x (HS.out x (List.mem_of_getElem? hx)) hF (by have := HN.out; omega))
      have HX := keep hx
      have HB := keep hB
      have HK := keep hK
      have HSZ := keep hB.size
      clear hx hF hB hK KM M1
      go_wp2_with fail
      refine MA.out.mono ?_
      intro e w5 h5
      have hnew := rise_new HR.out HX.out
      rcases h5 with ⟨h6, _⟩ | ⟨_, h6, _⟩ | ⟨_, _, rfl, r5, u5, j, h6, h7⟩
      · exact absurd h6 hnew
      · have := HN.out
        rw [List.length_take] at h6
        omega
      · have M5 : Kept (∃ r' v' KV', RF h (i + 1) w5 r' R1 b1 seed v' (l.take (i + 1)) (copyS h (l.take (i + 1))) KV' ∧ Below w.heap.size w w5 ∧ ∀ k, rf r' R1 v' k ≠ (0, 0) → w.heap.size ≤ k) := by
          have hl : (l.take i).take j ++ x :: (l.take i).drop j = l.take (i + 1) := rise_eq h6.2.1 (HR.out.sublist (List.take_sublist _ _)) (by rw [take_at HX.out]; exact ins_perm _ x j)
          rw [hl] at h6
          refine ⟨r5, u5, _, by rw [copyS_snoc HX.out]; exact h6, HB.out.trans (h7.below HSZ.out (fun k hk => Classical.byContradiction fun hne => by have := HK.out k hne; omega)), fun k hk => Classical.byContradiction fun hc => hk ?_⟩
          exact (h7.2.2 k (by have := HSZ.out; omega) (Classical.byContradiction fun hne => hc (HK.out k hne))).2
        clear h6 h7 MA hnew
        go_wp2
        go_roundg (n - (i + 1))
        case measure => omega
        case rel => exact ⟨i + 1, by simp, by omega, Nat.le_refl _, M5.out⟩
    · obtain rfl : i = n := by omega
      have HF : Kept (Q (.returned (.pointer (some ⟨R1, 0, none⟩))) wr) := by
        obtain ⟨r', v', KV', hF, hB, hK⟩ := KM.out
        exact HQ.out _ _ _ _ _ _ hB hF hK
      go_wp2
      first | exact HF.out | (go_ret; exact HF.out)
end Rd
end Go.Proofs.YtlfpkbjiofelkaaGreat

/-
  A flock of the program beside the document's own: they hold the same table, and no block of the one is the other's.
-/
namespace Go.Proofs.YtlfpkbjiofelkaaGreat
open Go.RowKit Go.Shelf
set_option linter.unusedVariables false
set_option linter.unusedSimpArgs false
set_option maxRecDepth 100000
theorem Rec.role_lt {h : ByteArray → Nat} {N : Nat} {w : World} {r : Roles} {R b seed : Nat} {s : Sx} (hr : Rec h N w r R b seed s) {k : Nat} (hk : rr r R k ≠ (0, 0)) : k < w.heap.size := by
  by_cases e : k = R
  · rw [e]; exact hr.lt
  · unfold rr at hk
    rw [if_neg e] at hk
    exact hr.1.1.1 k hk
/-- another's call leaves a flock as it is -/
theorem Rec.aside {h : ByteArray → Nat} {N : Nat} {w w' : World} {r q q' : Roles} {R b seed : Nat} {s : Sx} (hr : Rec h N w r R b seed s) (hF : Fr w q w' q') (ha : ∀ k, rr r R k = (0, 0) ∨ q k = (0, 0)) : Rec h N w' r R b seed s ∧ ∀ k, rr r R k = (0, 0) ∨ q' k = (0, 0) := by
  refine ⟨hr.kept hF.2.1 (fun k hk hne => (hF.2.2 k hk ((ha k).resolve_left hne)).1), fun k => ?_⟩
  by_cases e : rr r R k = (0, 0)
  · exact .inl e
  · exact .inr (hF.2.2 k (hr.role_lt e) ((ha k).resolve_left e)).2
namespace Rd
section
variable {h : ByteArray → Nat} {N N' : Nat} {w w' w'' : World} {r r' q q' : Roles} {R R2 b b2 seed : Nat} {v v' : Value} {l l' : List ByteArray} {s s' : Sf} {KV KV' : List (ByteArray × Int)}
theorem RF.role_lt (hf : RF h N w r R b seed v l s KV) {k : Nat} (hk : rf r R v k ≠ (0, 0)) : k < w.heap.size := by
  unfold rf at hk
  by_cases e : k = R
  · rw [e]; exact hf.1.lt
  · rw [if_neg e] at hk
    by_cases e' : v.ownBlock = some k
    · exact hf.1.row e'
    · rw [if_neg e'] at hk
      exact hf.1.1.1.1 k hk
theorem RF.aside (hf : RF h N w r R b seed v l s KV) (hF : Fr w q w' q') (ha : ∀ k, q k = (0, 0) ∨ rf r R v k = (0, 0)) : RF h N w' r R b seed v l s KV ∧ ∀ k, q' k = (0, 0) ∨ rf r R v k = (0, 0) := by
  refine ⟨hf.kept hF.2.1 (fun k hk hne => (hF.2.2 k hk ((ha k).resolve_right hne)).1), fun k => ?_⟩
  by_cases e : rf r R v k = (0, 0)
  · exact .inr e
  · exact .inl (hF.2.2 k (hf.role_lt e) ((ha k).resolve_right e)).2
/-- whose blocks: the program's flock's or the document's -/
def Own (r : Roles) (R : Nat) (q : Roles) (R2 : Nat) (v : Value) (k : Nat) : Prop := rr r R k ≠ (0, 0) ∨ rf q R2 v k ≠ (0, 0)
/-- nothing has turned but those blocks, and new ones -/
def Fp (w : World) (O : Nat → Prop) (w' : World) (O' : Nat → Prop) : Prop := (w'.os = w.os ∧ w'.tape = w.tape ∧ w'.output = w.output) ∧ w.heap.size ≤ w'.heap.size ∧ ∀ k, k < w.heap.size → ¬ O k → w'.heap[k]? = w.heap[k]? ∧ ¬ O' k
theorem Fp.left (hF : Fr w (rr r R) w' (rr r' R)) : Fp w (Own r R q R2 v) w' (Own r' R q R2 v) := ⟨hF.1, hF.2.1, fun k hk hn => by
  have h1 : rr r R k = (0, 0) := Classical.byContradiction fun e => hn (.inl e)
  have h2 : rf q R2 v k = (0, 0) := Classical.byContradiction fun e => hn (.inr e)
  obtain ⟨h3, h4⟩ := hF.2.2 k hk h1
  exact ⟨h3, fun e => e.elim (fun e => e h4) (fun e => e h2)⟩⟩
theorem Fp.right (hF : Fr w (rf q R2 v) w' (rf q' R2 v')) : Fp w (Own r R q R2 v) w' (Own r R q' R2 v') := ⟨hF.1, hF.2.1, fun k hk hn => by
  have h1 : rr r R k = (0, 0) := Classical.byContradiction fun e => hn (.inl e)
  have h2 : rf q R2 v k = (0, 0) := Classical.byContradiction fun e => hn (.inr e)
  obtain ⟨h3, h4⟩ := hF.2.2 k hk h2
  exact ⟨h3, fun e => e.elim (fun e => e h1) (fun e => e h4)⟩⟩
theorem Fp.trans {O O1 O2 : Nat → Prop} (h : Fp w O w' O1) (g : Fp w' O1 w'' O2) : Fp w O w'' O2 :=
  ⟨⟨g.1.1.trans h.1.1, g.1.2.1.trans h.1.2.1, g.1.2.2.trans h.1.2.2⟩, Nat.le_trans h.2.1 g.2.1, fun k hk hn => by
    obtain ⟨h1, h2⟩ := h.2.2 k hk hn
    obtain ⟨h3, h4⟩ := g.2.2 k (Nat.lt_of_lt_of_le hk h.2.1) h2
    exact ⟨h3.trans h1, h4⟩⟩
/-- a flock and the document's own, side by side, at one and the same table -/
structure Pf (h : ByteArray → Nat) (N : Nat) (w : World) (O : Nat → Prop) (R R2 seed : Nat) (l : List ByteArray) (s : Sf) : Prop where
  ex : ∃ r b q b2 v KV, Rec h N w r R b seed s ∧ RF h N w q R2 b2 seed v l s KV ∧ (∀ k, rr r R k = (0, 0) ∨ rf q R2 v k = (0, 0)) ∧ O = Own r R q R2 v
theorem lk_mem (hf : RF h N w r R b seed v l s KV) (x : ByteArray) : (lk s x).isSome = isin x l := by
  have hk := hf.1.1.2.2
  have h1 : (x ∈ l) ↔ x ∈ Dc.keys (Dc.all s) := (hf.2.2.mem_iff).trans (hk.2.1 x)
  cases e : lk s x with
  | none => exact (isin_not.2 (fun hm => (Dc.look_none x).1 e (h1.1 hm))).symm
  | some y => exact (isin_iff.2 (h1.2 (Classical.byContradiction fun hn => by have := (Dc.look_none x).2 hn; unfold lk at e; rw [this] at e; cases e))).symm
theorem ln_len (hf : RF h N w r R b seed v l s KV) : ln s = l.length := by rw [hf.few]; exact hf.1.1.2.2.2.2.symm
end
end Rd
end Go.Proofs.YtlfpkbjiofelkaaGreat

/-
  Add, Delete and Has of a flock and of the document's own: the same answer, the same table.
-/
namespace Go.Proofs.YtlfpkbjiofelkaaGreat
open Go.RowKit Go.Shelf
set_option linter.unusedVariables false
set_option linter.unusedSimpArgs false
set_option maxRecDepth 100000
namespace Rd
/-- what Add answers, and the table that it leaves -/
def addV (s : Sf) (x : ByteArray) : Value := if (lk s x).isSome then .tuple #[.bool false, .int .i64 0] else if 1048576 ≤ ln s then .tuple #[.bool false, .int .i64 4] else .tuple #[.bool true, .int .i64 0]
def addS (h : ByteArray → Nat) (s : Sf) (x : ByteArray) : Sf := if (lk s x).isSome then Dc.step h s else if 1048576 ≤ ln s then Dc.step h s else (Dc.set h (Dc.step h s) x ()).1
section
variable {h : ByteArray → Nat} {N N' : Nat} {w w' : World} {r r' q q' : Roles} {R R2 b b2 seed : Nat} {v v' : Value} {l l' : List ByteArray} {s s' : Sf} {KV KV' : List (ByteArray × Int)}
theorem fadd_all (hH : HashIs seed h) (hr : Rec h N w r R b seed s) (hN : N + 1 ≤ 2600000000000) (x : ByteArray) (hx : x.size ≤ 1048576) :
    Calls Tryz.prog 12 #[.pointer (some ⟨R, 0, none⟩), .string x] w fun e w' => e = .returned (addV s x) ∧ ∃ r', Rec h (N + 1) w' r' R b seed (addS h s x) ∧ Fr w (rr r R) w' (rr r' R) := by
  unfold addV addS
  cases e : lk s x with
  | some y =>
    refine (fadd_oldx hH hr (by omega) x hx y e).mono ?_
    rintro _ w' ⟨rfl, r', s', q1, ⟨_, rfl⟩, q3⟩
    exact ⟨rfl, r', q1.more (by omega), q3⟩
  | none =>
    by_cases hf : 1048576 ≤ ln s
    · refine (fadd_fullx hH hr (by omega) x hx e hf).mono ?_
      rintro _ w' ⟨rfl, r', s', q1, ⟨_, rfl⟩, q3⟩
      refine ⟨by simp [hf], r', ?_, q3⟩
      simp only [Option.isSome_none, Bool.false_eq_true, if_false, if_pos hf]
      exact q1.more (by omega)
    · refine (fadd_newx hH hr hN x hx e (by omega)).mono ?_
      rintro _ w' ⟨rfl, r', s', q1, ⟨_, rfl⟩, q3⟩
      refine ⟨by simp [hf], r', ?_, q3⟩
      simp only [Option.isSome_none, Bool.false_eq_true, if_false, if_neg hf]
      exact q1
theorem rfadd_all (hH : RHashIs seed h) (hf : RF h N w r R b seed v l s KV) (hN : N + 1 ≤ 2600000000000) (x : ByteArray) (hx : x.size ≤ 1048576) :
    Calls Tryz.prog 13 #[.pointer (some ⟨R, 0, none⟩), .string x] w fun e w' => e = .returned (addV s x) ∧ ∃ r' v' l' KV', RF h (N + 1) w' r' R b seed v' l' (addS h s x) KV' ∧ Fr w (rf r R v) w' (rf r' R v') := by
  have hm := lk_mem hf x
  have hl := ln_len hf
  refine (rfadd_any hH x hx hf hN).mono ?_
  unfold addV addS
  rw [hm, hl]
  rintro e w' (⟨h1, rfl, r', h2, h3⟩ | ⟨h1, h4, rfl, r', h2, h3⟩ | ⟨h1, h4, rfl, r', u, i, h2, h3⟩)
  · rw [isin_iff.2 h1]
    exact ⟨rfl, r', v, l, KV, h2.more (by omega), h3⟩
  · rw [isin_not.2 h1]
    simp only [Bool.false_eq_true, if_false, if_pos h4]
    exact ⟨trivial, r', v, l, KV, h2.more (by omega), h3⟩
  · rw [isin_not.2 h1]
    have h5 : ¬ 1048576 ≤ l.length := by omega
    simp only [Bool.false_eq_true, if_false, if_neg h5]
    exact ⟨trivial, r', u, _, _, h2, h3⟩
theorem fdel_all (hH : HashIs seed h) (hr : Rec h N w r R b seed s) (hN : N + 1 ≤ 2600000000000) (x : ByteArray) (hx : x.size ≤ maxLen) :
    Calls Tryz.prog 27 #[.pointer (some ⟨R, 0, none⟩), .string x] w fun e w' => e = .returned (.bool (lk s x).isSome) ∧ ∃ r', Rec h N w' r' R b seed (delX h s x) ∧ Fr w (rr r R) w' (rr r' R) := by
  refine (fdel_x hH hr hN x hx).mono ?_
  rintro _ w' ⟨rfl, r', s', q1, ⟨_, rfl⟩, q3⟩
  exact ⟨rfl, r', q1, q3⟩
theorem rfdel_all (hH : RHashIs seed h) (hf : RF h N w r R b seed v l s KV) (hN : N ≤ 2600000000000) (x : ByteArray) (hx : x.size ≤ maxLen) :
    Calls Tryz.prog 26 #[.pointer (some ⟨R, 0, none⟩), .string x] w fun e w' => e = .returned (.bool (lk s x).isSome) ∧ ∃ r' v' l' KV', RF h N w' r' R b seed v' l' (delX h s x) KV' ∧ Fr w (rf r R v) w' (rf r' R v') := by
  have hm := lk_mem hf x
  refine (rfdel_any hH x hx hf hN).mono ?_
  unfold delX
  rw [hm]
  rintro e w' (⟨h1, rfl, r', h2, h3⟩ | ⟨h1, rfl, r', u, h2, h3⟩)
  · rw [isin_not.2 h1]
    exact ⟨rfl, r', v, l, KV, h2, h3⟩
  · rw [isin_iff.2 h1]
    exact ⟨rfl, r', u, _, _, h2, h3⟩
theorem fhas_all (hH : HashIs seed h) (hr : Rec h N w r R b seed s) (hN : N ≤ 2600000000000) (x : ByteArray) (hx : x.size ≤ maxLen) :
    Calls Tryz.prog 29 #[.pointer (some ⟨R, 0, none⟩), .string x] w fun e w' => e = .returned (.bool (lk s x).isSome) ∧ ∃ r', Rec h N w' r' R b seed (Dc.step h s) ∧ Fr w (rr r R) w' (rr r' R) := by
  refine (fhas_x hH hr hN x hx).mono ?_
  rintro _ w' ⟨rfl, r', s', q1, ⟨_, rfl⟩, q3⟩
  exact ⟨rfl, r', q1, q3⟩
theorem rfhas_all (hH : RHashIs seed h) (hf : RF h N w r R b seed v l s KV) (hN : N ≤ 2600000000000) (x : ByteArray) :
    Calls Tryz.prog 28 #[.pointer (some ⟨R, 0, none⟩), .string x] w fun e w' => e = .returned (.bool (lk s x).isSome) ∧ ∃ r', RF h N w' r' R b seed v l (Dc.step h s) KV ∧ Fr w (rf r R v) w' (rf r' R v) := by
  rw [lk_mem hf x]
  exact rfhas_any hH x hf hN
/-- members: those of the table, rising; there is one such row -/
theorem mem_one {w1 w2 : World} {r1 r2 : Roles} {R1 b1 sd1 N1 : Nat} {v1 : Value} {l1 : List ByteArray} {KV1 : List (ByteArray × Int)} (h1 : RF h N w r R b seed v l s KV) (h2 : RF h N1 w1 r1 R1 b1 sd1 v1 l1 s KV1) : l = l1 := by
  refine rise_eq h1.2.1 h2.2.1 ?_
  have n1 : l.Nodup := h1.2.2.nodup_iff.2 h1.1.1.2.2.1
  have n2 : l1.Nodup := h2.2.2.nodup_iff.2 h2.1.1.2.2.1
  refine (List.perm_ext_iff_of_nodup n1 n2).2 (fun x => ?_)
  rw [← isin_iff, ← isin_iff, ← lk_mem h1 x, ← lk_mem h2 x]
end
end Rd
end Go.Proofs.YtlfpkbjiofelkaaGreat

/-
  Contracts over this program: the statements' own spoil of a row of texts.
-/
namespace Go.Proofs.YtlfpkbjiofelkaaGreat
open Go.RowKit Go.Shelf
set_option linter.unusedVariables false
set_option linter.unusedSimpArgs false
set_option maxRecDepth 100000
namespace Rd
/-- nothing has turned but the block of one row, and new ones -/
def FU (u : Value) (w w' : World) : Prop := (w'.os = w.os ∧ w'.tape = w.tape ∧ w'.output = w.output) ∧ w.heap.size ≤ w'.heap.size ∧ ∀ k, k < w.heap.size → u.ownBlock ≠ some k → w'.heap[k]? = w.heap[k]?
theorem FU.refl (u : Value) (w : World) : FU u w w := ⟨⟨rfl, rfl, rfl⟩, Nat.le_refl _, fun _ _ _ => rfl⟩
theorem FU.one {u : Value} {w w1 w2 : World} {g : Nat} (h : FU u w w1) (ho : Only g w1 w2) (hg : u.ownBlock = some g ∨ w.heap.size ≤ g) : FU u w w2 :=
  ⟨⟨ho.1.1.trans h.1.1, ho.1.2.1.trans h.1.2.1, ho.1.2.2.trans h.1.2.2⟩, by rw [ho.2.1]; exact h.2.1, fun k hk hn => (ho.2.2 k (fun e => by
    rcases hg with h' | h'
    · exact hn (by rw [h', e])
    · omega)).trans (h.2.2 k hk hn)⟩
theorem FU.grown {u u1 : Value} {w w1 w2 : World} (h : FU u w w1) (hg : w1.grownBy w2 u1.ownBlock) (hu : ∀ k, u1.ownBlock = some k → u.ownBlock = some k ∨ w.heap.size ≤ k) : FU u w w2 :=
  ⟨⟨hg.os.trans h.1.1, hg.tape.trans h.1.2.1, hg.output.trans h.1.2.2⟩, Nat.le_trans h.2.1 hg.size, fun k hk hn => (hg.block k (Nat.lt_of_lt_of_le hk h.2.1) (fun e => by
    rcases hu k e.symm with h' | h'
    · exact hn h'
    · omega)).trans (h.2.2 k hk hn)⟩
theorem FU.below {u : Value} {w w1 w2 : World} (h : FU u w w1) (hb : Below w1.heap.size w1 w2) : FU u w w2 :=
  ⟨⟨hb.os.trans h.1.1, hb.tape.trans h.1.2.1, hb.output.trans h.1.2.2⟩, Nat.le_trans h.2.1 hb.size, fun k hk hn => (hb.block k (Nat.lt_of_lt_of_le hk h.2.1)).trans (h.2.2 k hk hn)⟩
theorem FU.bel {u : Value} {w0 w w' : World} (h : FU u w w') (hb : Below w0.heap.size w0 w) (hu : ∀ k, u.ownBlock = some k → w0.heap.size ≤ k) : Below w0.heap.size w0 w' :=
  ⟨h.1.1.trans hb.os, h.1.2.1.trans hb.tape, h.1.2.2.trans hb.output, Nat.le_trans hb.size h.2.1, fun k hk => (h.2.2 k (Nat.lt_of_lt_of_le hk hb.size) (fun e => by have := hu k e; omega)).trans (hb.block k hk)⟩
/-- a text is written into a row -/
theorem tx_put {w : World} {g n cp i : Nat} {l : List ByteArray} {x : ByteArray} (h : Tx w (.slice (some ⟨g, 0, none⟩) n cp) l) (hn : l.length = n) (hi : i < n) :
    Tx (w.setCell ⟨g, i, none⟩ (.string x)) (.slice (some ⟨g, 0, none⟩) n cp) (l.set i x) ∧ (∃ u, w.cell? ⟨g, i, none⟩ = some u) ∧ ∀ k, w.frozen? ⟨g, k, none⟩ = false := by
  obtain ⟨y, hy⟩ : ∃ y, l[i]? = some y := ⟨_, List.getElem?_eq_getElem (by omega)⟩
  have hc := h.at hy
  rcases h.2 with ⟨e, _⟩ | ⟨g', cap', cur, e, f1, f2, f3, f4, f5, f6⟩
  · cases e
  · cases e
    refine ⟨⟨by simp [txs], .inr ⟨g, cp, cur.setIfInBounds i (.string x), by rw [List.length_set], f1, cells_setCell f2, by rw [List.length_set]; exact f3, f4, by simpa using f5, ?_⟩⟩, ⟨_, hc⟩, fun k => by simp [World.frozen?, f2]⟩
    rw [List.length_set, Array.toList_setIfInBounds, List.take_set, f6]
    simp [txs, List.map_set]
set_option maxHeartbeats 4000000 in
theorem spoil_any (w : World) (u : Value) (l : List ByteArray) (h : Tx w u l) (hn : l.length ≤ 4000000000000) :
    Calls Tryz.prog 21 #[u] w fun e w' => e = .returned (.tuple #[]) ∧ FU u w w' := by
  obtain ⟨ao, cp, hu, hao⟩ := h.form
  subst hu
  obtain ⟨n, hln⟩ : ∃ n, l.length = n := ⟨_, rfl⟩
  rw [hln] at h hao hn ⊢
  have HR := keep h
  have HLN := keep hln
  have HAO := keep hao
  have HN := keep hn
  clear h hln hao hn
  go_enter Tryz.func21, Tryz.ntmps21
  go_wp2
  go_loopg [6] n (fun kx s wr => ∃ i : Nat, s = .int .i64 i ∧ i ≤ n ∧ n - i ≤ kx ∧ ∃ l', Kept (Tx wr (.slice ao n cp) l' ∧ l'.length = n ∧ FU (.slice ao n cp) w wr))
  case atStart => exact ⟨0, rfl, Nat.zero_le _, by omega, l, HR.out, HLN.out, FU.refl _ _⟩
  case round =>
    obtain ⟨i, rfl, hin, hgi, l', KR⟩ := hrel
    by_cases hlt : i < n
    · obtain ⟨g, hg⟩ := HAO.out (by omega)
      subst hg
      obtain ⟨r1, ⟨u0, hu0⟩, tz⟩ := tx_put (x := { data := #[115, 112, 111, 105, 108, 116] }) KR.out.1 KR.out.2.1 hlt
      have i0 : (0 : Int) ≤ (i : Int) := by omega
      have i1 : (i : Int) < (n : Int) := by omega
      have hwi : IntKind.i64.wrap ((i : Int) + 1) = (i : Int) + 1 := by have := HN.out; rw [IntKind.wrap_i64]; omega
      obtain ⟨W9, hW9⟩ : ∃ x, wr.setCell ⟨g, i, none⟩ (.string { data := #[115, 112, 111, 105, 108, 116] }) = x := ⟨_, rfl⟩
      have hO : Only g wr W9 := by rw [← hW9]; exact (Only.refl g wr).setCell _ _
      rw [hW9] at r1
      have K9 : Kept (∃ l', Tx W9 (.slice (some ⟨g, 0, none⟩) n cp) l' ∧ l'.length = n ∧ FU (.slice (some ⟨g, 0, none⟩) n cp) w W9) := ⟨_, r1, by rw [List.length_set]; exact KR.out.2.1, KR.out.2.2.one hO (.inl rfl)⟩
      clear r1 hO KR
      go_wp2
      go_roundg (n - (i + 1))
      case measure => omega
      case rel =>
        obtain ⟨l2, q⟩ := K9.out
        exact ⟨i + 1, by simp, by omega, Nat.le_refl _, l2, q⟩
    · obtain rfl : i = n := by omega
      obtain ⟨wq, hwq⟩ : ∃ x, x = wr := ⟨_, rfl⟩
      subst hwq
      go_wp2_with fail
      go_loopg [3, 14] 20 (fun kx s3 s wz => ∃ j : Nat, s = .int .i64 j ∧ j ≤ 20 ∧ 20 - j ≤ kx ∧ ∃ bo bc m l2, s3 = .slice bo m bc ∧ m = i + j ∧ Kept (Tx wz (.slice bo m bc) l2 ∧ l2.length = m ∧ FU (.slice ao i cp) w wz ∧ ∀ k, (Value.slice bo m bc).ownBlock = some k → (Value.slice ao i cp).ownBlock = some k ∨ w.heap.size ≤ k))
      case atStart => exact ⟨0, rfl, by omega, by omega, ao, cp, i, l', rfl, rfl, KR.out.1, KR.out.2.1, KR.out.2.2, fun k hk => .inl hk⟩
      case round =>
        obtain ⟨j, rfl, hj, hgj, bo, bc, m, l2, rfl, hm, K2⟩ := hrel
        by_cases hjl : j < 20
        · have hjz : (j : Int) < 20 := by omega
          have hjw : IntKind.i64.wrap ((j : Int) + 1) = (j : Int) + 1 := by rw [IntKind.wrap_i64]; omega
          obtain ⟨W3, hW3⟩ : ∃ x, wr.alloc (.cells #[.string { data := #[109, 111, 114, 101] }] 9) = x := ⟨_, rfl⟩
          have hb3 : Below wr.heap.size wr W3 := by rw [← hW3]; exact (Below.refl _ wr).alloc (Nat.le_refl _) _
          have g3 : W3.heap[wr.heap.size]? = some (.cells #[.string { data := #[109, 111, 114, 101] }] 9 (0, 0)) := by rw [← hW3]; exact heap_alloc_new _ _
          obtain ⟨q1, q2, q3, q4⟩ := K2.out
          obtain ⟨co, cn, cc, W4, ha, hr, hgr, how⟩ := tx_app W3 _ l2 { data := #[109, 111, 114, 101] } wr.heap.size (q1.bel hb3) g3 (by have := HN.out; omega)
          have hcn : cn = m + 1 := by
            obtain ⟨o', c', e, _⟩ := hr.form
            injection e with e1 e2 e3
            rw [e2, List.length_append]
            simp [q2]
          subst hcn
          have K4 : Kept (∃ l3, Tx W4 (.slice co (m + 1) cc) l3 ∧ l3.length = m + 1 ∧ FU (.slice ao i cp) w W4 ∧ ∀ k, (Value.slice co (m + 1) cc).ownBlock = some k → (Value.slice ao i cp).ownBlock = some k ∨ w.heap.size ≤ k) := by
            refine ⟨_, hr, by rw [List.length_append]; simp [q2], (q3.below hb3).grown hgr q4, fun k hk => ?_⟩
            rcases how with e | e
            · exact q4 k (by rw [← e]; exact hk)
            · rw [e] at hk; cases hk; right; have := q3.2.1; have := hb3.size; omega
          have HA := keep ha
          clear q1 q2 q3 q4 hr hgr how ha hb3 g3 K2
          go_wp2_with (at_builtin; refine wpList_app_run rfl _ _ _ _ rfl _ _ _ rfl rfl HA.out ?_)
          go_roundg (20 - (j + 1))
          case measure => omega
          case rel =>
            obtain ⟨l3, q⟩ := K4.out
            exact ⟨j + 1, by simp, by omega, Nat.le_refl _, co, cc, m + 1, l3, by rw [hm], by omega, q⟩
        · obtain rfl : j = 20 := by omega
          have hmp : 0 < m := by omega
          have hmz : (0 : Int) < (m : Int) := by omega
          obtain ⟨q1, q2, q3, q4⟩ := K2.out
          obtain ⟨o', c', e, hg'⟩ := q1.form
          injection e with e1 e2 e3
          obtain ⟨g, hg⟩ := hg' (by omega)
          rw [hg] at e1
          subst e1
          obtain ⟨_, ⟨u0, hu0⟩, tz⟩ := tx_put (i := 0) (x := { data := #[115, 112, 111, 105, 108, 116, 32, 116, 111, 111] }) q1 q2 hmp
          obtain ⟨W9, hW9⟩ : ∃ x, wr.setCell ⟨g, 0, none⟩ (.string { data := #[115, 112, 111, 105, 108, 116, 32, 116, 111, 111] }) = x := ⟨_, rfl⟩
          have hO : Only g wr W9 := by rw [← hW9]; exact (Only.refl g wr).setCell _ _
          have HF := keep (q3.one hO (q4 g rfl))
          clear q1 q2 q3 q4 hg' hO K2 hg e2 e3
          go_wp2
          go_end0
          exact ⟨rfl, HF.out⟩
end Rd
end Go.Proofs.YtlfpkbjiofelkaaGreat

namespace Go.Proofs.YtlfpkbjiofelkaaGreat
open Go.RowKit Go.Shelf
set_option linter.unusedVariables false
set_option linter.unusedSimpArgs false
set_option maxRecDepth 100000
namespace Rd
section
variable {h : ByteArray → Nat} {N N' : Nat} {w w1 w' W : World} {r r' : Roles} {R b seed : Nat} {u v : Value} {l l' : List ByteArray} {s s' : Sf} {KV KV' : List (ByteArray × Int)}
/-- what texts cost -/
def cstT (l : List ByteArray) : Nat := (l.map fun x => 24 + x.size).sum
theorem cstT_le {l : List ByteArray} (h : ∀ x ∈ l, x.size ≤ 1048576) : cstT l ≤ l.length * 1048600 := by
  induction l with
  | nil => simp [cstT]
  | cons e l ih =>
    have h1 := ih (fun x hx => h x (List.mem_cons_of_mem _ hx))
    have h2 := h e (by simp)
    unfold cstT at *
    rw [List.map_cons, List.sum_cons, List.length_cons, Nat.add_mul]
    omega
theorem cstT_snoc {l : List ByteArray} {i : Nat} {x : ByteArray} (h : l[i]? = some x) : cstT (l.take (i + 1)) = cstT (l.take i) + (24 + x.size) := by
  unfold cstT
  rw [List.take_add_one, h]
  simp
set_option maxHeartbeats 2000000 in
theorem rfcost_any (hf : RFm h N w r R b seed v l s KV) (hn : l.length ≤ 1048576) (hs : ∀ x ∈ l, x.size ≤ 1048576) :
    Calls Tryz.prog 36 #[.pointer (some ⟨R, 0, none⟩)] w fun e w' => e = .returned (.int .i64 ((cstT l : Nat) : Int)) ∧ Below w.heap.size w w' := by
  have MM := keep (rfmembers_any hf (by omega))
  have HC : Kept (∀ i, cstT (l.take i) ≤ 1200000000000) := fun i => by
    have h1 := cstT_le (l := l.take i) (fun e he => hs e (List.mem_of_mem_take he))
    have h2 : (l.take i).length ≤ 1048576 := by rw [List.length_take]; omega
    omega
  obtain ⟨n, hln⟩ : ∃ n, l.length = n := ⟨_, rfl⟩
  rw [hln] at hn
  have HL := keep hln
  have HN := keep hn
  have HQ : Kept (∀ w', Below w.heap.size w w' → (Ending.returned (.int .i64 ((cstT (l.take n) : Nat) : Int)) = .returned (.int .i64 ((cstT l : Nat) : Int)) ∧ Below w.heap.size w w')) := fun w' h2 => ⟨by rw [List.take_of_length_le (by omega)], h2⟩
  clear hf hln hn hs
  go_enter Tryz.func36, Tryz.ntmps36
  go_wp2_with fail
  refine MM.out.mono ?_
  rintro _ w1 ⟨u, rfl, hm⟩
  obtain ⟨ao, cp, hu, hao⟩ := hm.1.form
  have HM := keep hm
  have HAO := keep hao
  have hle := HL.out
  rw [hle] at hu HAO
  subst hu
  clear hm hao hle MM
  go_wp2
  go_loopg [3, 9] n (fun kx s3 s9 wr => ∃ i : Nat, s9 = .int .i64 i ∧ i ≤ n ∧ n - i ≤ kx ∧ s3 = .int .i64 ((cstT (l.take i) : Nat) : Int) ∧ Kept (wr = w1))
  case atStart => exact ⟨0, rfl, Nat.zero_le _, by omega, rfl, rfl⟩
  case round =>
    obtain ⟨i, rfl, hin, hg, rfl, EW⟩ := hrel
    obtain rfl : wr = w1 := EW.out
    by_cases hlt : i < n
    · obtain ⟨x, hx⟩ : ∃ x, l[i]? = some x := ⟨_, List.getElem?_eq_getElem (by have := HL.out; omega)⟩
      obtain ⟨g, hg'⟩ := HAO.out (by omega)
      subst hg'
      have e0 := HM.out.1.at (j := i) (x := x) hx
      have i0 : (0 : Int) ≤ (i : Int) := by omega
      have i1 : (i : Int) < (n : Int) := by omega
      have hst := cstT_snoc hx
      have c1 := HC.out i
      have c2 := HC.out (i + 1)
      obtain ⟨c, hc⟩ : ∃ c, cstT (l.take i) = c := ⟨_, rfl⟩
      rw [hc] at hst c1 ⊢
      have ST : Kept (cstT (l.take (i + 1)) = c + (24 + x.size)) := hst
      have hwi : IntKind.i64.wrap ((i : Int) + 1) = (i : Int) + 1 := by have := HN.out; rw [IntKind.wrap_i64]; omega
      obtain ⟨z, hz⟩ : ∃ z : Int, (x.size : Int) = z := ⟨_, rfl⟩
      have w0 : IntKind.i64.wrap z = z := by rw [IntKind.wrap_i64]; omega
      have w2 : IntKind.i64.wrap (24 + z) = 24 + z := by rw [IntKind.wrap_i64]; omega
      have w3 : IntKind.i64.wrap ((c : Int) + (24 + z)) = (c : Int) + (24 + z) := by rw [IntKind.wrap_i64]; omega
      have HZ := keep hz
      clear hx hst c1 c2 hc
      go_wp2
      go_roundg (n - (i + 1))
      case measure => omega
      case rel => exact ⟨i + 1, by simp, by omega, Nat.le_refl _, by rw [ST.out]; have := HZ.out; congr 1; omega, rfl⟩
    · obtain rfl : i = n := by omega
      have HF := keep (HQ.out wr HM.out.2.2)
      go_wp2
      go_ret
      exact HF.out
end
end Rd
end Go.Proofs.YtlfpkbjiofelkaaGreat
