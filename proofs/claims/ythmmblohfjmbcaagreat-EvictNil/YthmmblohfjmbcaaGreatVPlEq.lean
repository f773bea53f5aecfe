/-
  Contracts over this program: two candidates held against each other; where a key stands in a row.
-/
import Derived.Test.YthmmblohfjmbcaaGreatVPlPut
import Derived.Laws.StructEq
namespace Go.Proofs.YthmmblohfjmbcaaGreat.DV
open Go.RowKit Go.Shelf
set_option linter.unusedVariables false
set_option maxRecDepth 100000
def eqE (a b : Ent) : Bool := (a.1.toList == b.1.toList) && (a.2 == b.2)
theorem eqE_iff {a b : Ent} : eqE a b = true ↔ a = b := by
  unfold eqE
  rw [Bool.and_eq_true, beq_iff_eq, beq_iff_eq]
  exact ⟨fun h => Prod.ext (tl_inj h.1) h.2, fun h => by rw [h]; exact ⟨rfl, rfl⟩⟩
theorem eqE_self (a : Ent) : eqE a a = true := eqE_iff.2 rfl
theorem eqE_not {a b : Ent} (h : a ≠ b) : eqE a b = false := by
  cases e : eqE a b with
  | false => rfl
  | true => exact absurd (eqE_iff.1 e) h
theorem fields_cd : ((Tryz.prog.fieldsOf 65).toList.map fun f => (f.name, f.type, f.offset)) = [("Key", 9, 0), ("Rank", 22, 1)] := by kernel_rfl
theorem fields_cd' : ∃ f g : Field, (Tryz.prog.fieldsOf 65).toList = [f, g] ∧ f.name = "Key" ∧ f.type = 9 ∧ f.offset = 0 ∧ g.name = "Rank" ∧ g.type = 22 ∧ g.offset = 1 := by
  have h := fields_cd
  match hl : (Tryz.prog.fieldsOf 65).toList with
  | [] => rw [hl] at h; simp at h
  | [_] => rw [hl] at h; simp at h
  | f :: g :: [] => rw [hl] at h; simp at h; exact ⟨f, g, rfl, h.1.1, h.1.2.1, h.1.2.2, h.2.1, h.2.2.1, h.2.2.2⟩
  | _ :: _ :: _ :: _ => rw [hl] at h; simp at h
theorem stood_cd : Tryz.prog.stoodInHeld 65 = false := by kernel_rfl
theorem und_cd : Tryz.prog.underlying 65 = some (.struct (Tryz.prog.fieldsOf 65)) := by kernel_rfl
theorem guard_cd : Tryz.prog.eqGuardType Tryz.prog.depth 65 = false := by kernel_rfl
theorem eqIn_run (a b : Ent) (w : World) : (Op.equalIn 10000 65 (.agg #[.string a.1, .int .u64 a.2]) (.agg #[.string b.1, .int .u64 b.2])).run Tryz.prog w = .ok (eqE a b) w := by
  rw [run_equalIn_struct w 9999 _ _ _ und_cd stood_cd]
  obtain ⟨f, g, hl, h1, h2, h3, h4, h5, h6⟩ := fields_cd'
  rw [hl]
  have u1 := Tryz.underlying9
  have u2 := Tryz.underlying22
  have p0 : ∀ (x : ByteArray) (y : Int) (w : World), (part 9 #[.string x, .int .u64 y] 0).run Tryz.prog w = .ok (.string x) w := fun x y w => by simp [part, isAgg, run_underlying u1]
  have p1 : ∀ (x : ByteArray) (y : Int) (w : World), (part 22 #[.string x, .int .u64 y] 1).run Tryz.prog w = .ok (.int .u64 y) w := fun x y w => by simp [part, isAgg, run_underlying u2]
  have q1 : ("Key" : String) ≠ "_" := by decide
  have q2 : ("Rank" : String) ≠ "_" := by decide
  simp only [Op.eqFields, h1, h2, h3, h4, h5, h6, if_pos q1, if_pos q2, Sem.run_bind, p0, p1, Result.andThen_ok, run_equalIn_string w 9998 _ _ _ u1, run_equalIn_int w 9998 _ .u64 .u64 _ _ u2, Sem.run_ite, Sem.run_pure]
  unfold eqE
  cases hq : (a.1.toList == b.1.toList) <;> cases hr : (a.2 == b.2) <;> simp
theorem eq_run (a b : Ent) (w : World) : (binOp .eql 65 (.agg #[.string a.1, .int .u64 a.2]) (.agg #[.string b.1, .int .u64 b.2])).run Tryz.prog w = .ok (.bool (eqE a b)) w := by
  rw [run_eql_struct, eqIn_run]; rfl
theorem ne_run (a b : Ent) (w : World) : (binOp .neq 65 (.agg #[.string a.1, .int .u64 a.2]) (.agg #[.string b.1, .int .u64 b.2])).run Tryz.prog w = .ok (.bool (!eqE a b)) w := by
  rw [run_neq_struct, eqIn_run]; rfl
/-- is it that key? -/
def isK (key : ByteArray) (e : Ent) : Bool := e.1.toList == key.toList
theorem isK_iff {key : ByteArray} {e : Ent} : isK key e = true ↔ e.1 = key := by
  unfold isK
  rw [beq_iff_eq]
  exact ⟨tl_inj, fun h => by rw [h]⟩
set_option maxHeartbeats 1000000 in
theorem clos_any (e : Ent) (key : ByteArray) (B : Nat) (W : World) (h0 : W.cell? ⟨B, 0, none⟩ = some (.string key)) :
    Calls Tryz.prog 70 (#[agE e] ++ #[.pointer (some ⟨B, 0, none⟩)]) W fun en w' => en = .returned (.bool (isK key e)) ∧ Below W.heap.size W w' := by
  obtain ⟨a1, a2⟩ := e
  have hbw : B < W.heap.size := World.block_lt_of_cell? _ _ h0
  obtain ⟨W1, hW1⟩ : ∃ W1, W.alloc (.cells #[.string a1, .int .u64 a2] 65) = W1 := ⟨_, rfl⟩
  have hb1 : Below W.heap.size W W1 := by rw [← hW1]; exact (Below.refl _ W).alloc (Nat.le_refl _) _
  have k0 : W1.cell? ⟨B, 0, none⟩ = some (.string key) := (hb1.cell (p := ⟨B, 0, none⟩) hbw).trans h0
  have hn : W1.heap[W.heap.size]? = some (.cells #[.string a1, .int .u64 a2] 65 (0, 0)) := by rw [← hW1]; exact heap_alloc_new _ _
  have n0 : W1.cell? ⟨W.heap.size, 0, none⟩ = some (.string a1) := by simp [World.cell?, hn]
  have HB := keep hb1
  obtain ⟨r, hr⟩ : ∃ r, (a1.toList == key.toList) = r := ⟨_, rfl⟩
  have hq : isK key (a1, a2) = r := hr
  rw [hq]
  clear h0 hb1 hbw hn hq
  unfold agE
  dsimp only
  go_enter Tryz.func70, Tryz.ntmps70
  go_wp2
  go_ret
  exact ⟨by simp, HB.out⟩
/-- found: the place of a key, or -1 -/
def Fnd (l : List Ent) (key : ByteArray) (r : Int) : Prop :=
  (r = -1 ∧ ∀ e ∈ l, e.1 ≠ key) ∨ ∃ (p : Nat) (x : Int), r = (p : Int) ∧ l[p]? = some (key, x)
def Idx (w : World) (l : List Ent) (key : ByteArray) (e : Ending) (w' : World) : Prop := (∃ r : Int, e = .returned (.int .i64 r) ∧ Fnd l key r) ∧ Below w.heap.size w w'
set_option maxHeartbeats 4000000 in
theorem index_any (w : World) (v : Value) (l : List Ent) (key : ByteArray) (B : Nat) (h : Row w v l) (hk : w.cell? ⟨B, 0, none⟩ = some (.string key)) (hn : l.length ≤ 2000000) :
    Calls Tryz.prog 69 #[v, .func (.func 70) #[] #[.pointer (some ⟨B, 0, none⟩)]] w fun e w' => Idx w l key e w' := by
  have HQ : Kept (∀ (r : Int) w', Fnd l key r → Below w.heap.size w w' → Idx w l key (.returned (.int .i64 r)) w') := fun r w' h1 h2 => ⟨⟨r, rfl, h1⟩, h2⟩
  rcases h.form with ⟨rfl, rfl⟩ | ⟨g, cp, rfl, hc1, hc2⟩
  · have h0 : Fnd [] key (-1) := .inl ⟨rfl, fun e he => by cases he⟩
    have HP := keep (HQ.out (-1) w h0 (Below.refl _ _))
    generalize Idx w [] key = Q at *
    clear h0 h hk hn HQ
    go_enter Tryz.func69, Tryz.ntmps69
    go_wp2
    refine loop_at ?_
    go_wp2
    first | exact HP.out | (go_ret; exact HP.out)
  · have hcel := cel_of h
    obtain ⟨n, hln⟩ : ∃ n, l.length = n := ⟨_, rfl⟩
    rw [hln] at hn ⊢
    have HL := keep hln
    have HC := keep hcel
    have HKY := keep hk
    have HN := keep hn
    generalize Idx w l key = Q at *
    clear h hc1 hc2 hcel hln hk
    go_enter Tryz.func69, Tryz.ntmps69
    go_wp2
    go_loopg [8] n (fun kx s8 wr => ∃ i : Nat, s8 = .int .i64 i ∧ i ≤ n ∧ n - i ≤ kx ∧ Kept (Below w.heap.size w wr) ∧ Kept (∀ t x, t < i → l[t]? = some x → x.1 ≠ key))
    case atStart => exact ⟨0, rfl, Nat.zero_le _, by omega, Below.refl _ _, fun t x ht => absurd ht (Nat.not_lt_zero _)⟩
    case round =>
      obtain ⟨i, rfl, hin, hg, BW, I⟩ := hrel
      by_cases hlt : i < n
      · have hml : i < l.length := by have := HL.out; omega
        obtain ⟨x, hx⟩ : ∃ x, l[i]? = some x := ⟨_, List.getElem?_eq_getElem hml⟩
        obtain ⟨x1, x2⟩ := x
        obtain ⟨oM, hoM⟩ : ∃ o, o = i * 2 := ⟨_, rfl⟩
        have hc' := HC.out.bel BW.out i _ hx
        rw [← hoM] at hc'
        obtain ⟨e0, e1⟩ := hc'
        have hoM' : i * 2 = oM := hoM.symm
        have i0 : (0 : Int) ≤ (i : Int) := by omega
        have i1 : (i : Int) < (n : Int) := by omega
        have ky : wr.cell? ⟨B, 0, none⟩ = some (.string key) := (BW.out.cell (p := ⟨B, 0, none⟩) (World.block_lt_of_cell? _ _ HKY.out)).trans HKY.out
        have mC := clos_any (x1, x2) key B wr ky
        unfold agE at mC
        dsimp only at mC e0 e1
        have HX := keep hx
        have MC := keep mC
        clear mC hx hml hoM ky
        cases hq : isK key (x1, x2)
        · rw [hq] at MC
          have HQ1 := keep hq
          clear hq
          go_wp2_with fail
          refine MC.out.mono ?_
          rintro _ w2 ⟨rfl, hb2⟩
          go_wp2
          go_roundg (n - (i + 1))
          case measure => omega
          case rel =>
            refine ⟨i + 1, by simp, by omega, Nat.le_refl _, Below.up BW.out hb2, fun t x ht hx => ?_⟩
            rcases Nat.lt_or_ge t i with h' | h'
            · exact I.out t x h' hx
            · obtain rfl : t = i := by omega
              rw [HX.out] at hx
              cases hx
              intro e
              have := isK_iff.2 e
              rw [HQ1.out] at this
              cases this
        · rw [hq] at MC
          have hk1 : x1 = key := isK_iff.1 hq
          have HF : Kept (Fnd l key (i : Int)) := .inr ⟨i, x2, rfl, by rw [HX.out, hk1]⟩
          clear hq hk1
          go_wp2_with fail
          refine MC.out.mono ?_
          rintro _ w2 ⟨rfl, hb2⟩
          go_wp2
          first | exact HQ.out _ _ HF.out (Below.up BW.out hb2) | (go_ret; exact HQ.out _ _ HF.out (Below.up BW.out hb2))
      · obtain rfl : i = n := by omega
        have HF : Kept (Fnd l key (-1)) := .inl ⟨rfl, fun e he => by
          obtain ⟨t, ht⟩ := List.mem_iff_getElem?.1 he
          exact I.out t e (by have := (List.getElem?_eq_some_iff.1 ht).1; have := HL.out; omega) ht⟩
        go_wp2
        first | exact HQ.out _ _ HF.out BW.out | (go_ret; exact HQ.out _ _ HF.out BW.out)
end Go.Proofs.YthmmblohfjmbcaaGreat.DV
