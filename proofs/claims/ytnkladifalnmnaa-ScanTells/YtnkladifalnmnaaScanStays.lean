/-
  Contracts over this program: the statements' own stays: the keys of a list that are still there behind a change.
-/
import Derived.Test.YtnkladifalnmnaaScanTabs
import Derived.Test.YtnkladifalnmnaaScanChange
namespace Go.Proofs.Ytnkladifalnmnaa
open Go.RowKit Go.Shelf
attribute [local go_sem] Oper.semAt_some
/-- one text more -/
theorem app_one (B : Nat) (w : World) (v : Value) (xs : List ByteArray) (y : ByteArray) (h1 : Ks B w v xs) (hb : B ≤ w.heap.size) (hl : xs.length ≤ 7000000000000) :
    ∃ v' w', (Builtin.append_ #[36, 36] 36 #[v, .slice (some ⟨w.heap.size, 0, none⟩) 1 1]).run Try.prog (w.alloc (.cells #[.string y] 9)) = .ok v' w' ∧ Ks B w' v' (xs ++ [y]) ∧ Below B w w' := by
  obtain ⟨i0, hi0, hz0, hz1, hz2⟩ := info_parts info_strK
  have hb3 : Below w.heap.size w (w.alloc (.cells #[.string y] 9)) := (Below.refl _ w).alloc (Nat.le_refl _) _
  have c0 : (w.alloc (.cells #[.string y] 9)).cell? ⟨w.heap.size, 0, none⟩ = some (.string y) := by rw [cell_of_row _ _ _ _ _ _ (heap_alloc_new _ _)]; rfl
  have add : ∀ i, (⟨w.heap.size, 0, none⟩ : Addr).add i = ⟨w.heap.size, i, none⟩ := by intro i; unfold Addr.add; split <;> simp_all
  have h1' : Ks B (w.alloc (.cells #[.string y] 9)) v xs := own_kept h1 (fun k hk => hb3.block k (own_lt h1 hk))
  have hB := Nat.le_trans hb hb3.size
  unfold Ks at h1'
  obtain ⟨v', w', r1, r2, r3, _⟩ := run_append_own (P := Try.prog) (w.alloc (.cells #[.string y] 9)) B 36 36 9 i0 (.string .empty) 1 16 Try.underlying36 hi0 hz0 hz1 hz2 rfl (by decide) v xs.length _ h1' ⟨w.heap.size, 0, none⟩ 1 1 [.string y] (by simp) (fun j x hx => by
    cases j with
    | zero => rw [add]; simp at hx; rw [c0, hx]
    | succ j => simp at hx) (fun u hu => by simp at hu; subst hu; rfl) (by unfold maxLen; omega) (by omega) hB
  refine ⟨v', w', r1, ?_, (hb3.mono hb).trans ((Below.refl B _).grown r3 hB (fun k hk => (h1'.lt k hk).1))⟩
  unfold Ks
  rw [List.length_append, List.map_append]
  exact r2
/-- what stays of a list -/
def Sty (o : Cg) (l l' : List ByteArray) : Prop := (∀ k ∈ l', k ∈ l ∧ o.op ≠ 4 ∧ (o.op = 2 → k ≠ o.key)) ∧ l'.length ≤ l.length
theorem sty_put {o : Cg} {l l' : List ByteArray} {j : Nat} {x : ByteArray} (h : Sty o (l.take j) l') (hx : l[j]? = some x) (h4 : o.op ≠ 4) (h2 : o.op = 2 → x ≠ o.key) : Sty o (l.take (j + 1)) (l' ++ [x]) := by
  have e : l.take (j + 1) = l.take j ++ [x] := by rw [List.take_add_one, hx]; rfl
  rw [e]
  refine ⟨fun k hk => ?_, ?_⟩
  · rcases List.mem_append.1 hk with hk | hk
    · obtain ⟨a, b⟩ := h.1 k hk
      exact ⟨List.mem_append_left _ a, b⟩
    · simp at hk
      subst hk
      exact ⟨by simp, h4, h2⟩
  · have := h.2
    simp only [List.length_append, List.length_singleton]
    omega
theorem sty_drop {o : Cg} {l l' : List ByteArray} {j : Nat} {x : ByteArray} (h : Sty o (l.take j) l') (hx : l[j]? = some x) : Sty o (l.take (j + 1)) l' := by
  have e : l.take (j + 1) = l.take j ++ [x] := by rw [List.take_add_one, hx]; rfl
  rw [e]
  refine ⟨fun k hk => ?_, ?_⟩
  · obtain ⟨a, b⟩ := h.1 k hk
    exact ⟨List.mem_append_left _ a, b⟩
  · have := h.2
    simp only [List.length_append, List.length_singleton]
    omega
set_option maxRecDepth 100000 in
set_option maxHeartbeats 2000000 in
theorem stays_any (w : World) (v : Value) (l : List ByteArray) (o : Cg) (hv : Rd w v l) (hl : l.length ≤ 7000000000000) :
    Calls Try.prog 20 #[v, .agg #[.int .i64 o.op, .string o.key]] w fun e w' => (∃ v' l', e = .returned v' ∧ Ks w.heap.size w' v' l' ∧ Sty o l l') ∧ Below w.heap.size w w' := by
  obtain ⟨op, key⟩ := o
  dsimp only
  have hb : Below w.heap.size w (w.alloc (.cells #[.int .i64 op, .string key] 32)) := (Below.refl _ w).alloc (Nat.le_refl _) _
  have hx := heap_alloc_new w (.cells #[.int .i64 op, .string key] 32)
  have c0 : (w.alloc (.cells #[.int .i64 op, .string key] 32)).cell? ⟨w.heap.size, 0, none⟩ = some (.int .i64 op) := by rw [cell_of_row _ _ _ _ _ _ hx]; rfl
  have c1 : (w.alloc (.cells #[.int .i64 op, .string key] 32)).cell? ⟨w.heap.size, 1, none⟩ = some (.string key) := by rw [cell_of_row _ _ _ _ _ _ hx]; rfl
  obtain ⟨w1, hw1⟩ : ∃ w1, w.alloc (.cells #[.int .i64 op, .string key] 32) = w1 := ⟨_, rfl⟩
  rw [hw1] at hb c0 c1
  have hlt0 : w.heap.size < w1.heap.size := lt_cell c0
  have HW := keep hw1
  have HB := keep hb
  have D0 := keep c0
  have D1 := keep c1
  have HV := keep hv
  obtain ⟨ao, cap, rfl, hmx, _⟩ := hv
  obtain ⟨L, hL⟩ : ∃ L, l.length = L := ⟨_, rfl⟩
  rw [hL] at hl hmx ⊢
  unfold maxLen at hmx
  have HL := keep hL
  clear hb hx hw1 hL
  go_enter Try.func20, Try.ntmps20
  by_cases q4 : op = 4
  · subst q4
    go_wp2_with (rw [HW.out])
    go_ret
    exact ⟨⟨_, [], rfl, ks_nil _ _, ⟨fun k hk => absurd hk List.not_mem_nil, Nat.zero_le _⟩⟩, HB.out⟩
  · have b4 : (op == 4) = false := beq_eq_false_iff_ne.2 q4
    go_wp2_with (rw [HW.out])
    go_loopw [5, 6] (fun u i wr => ∃ (j : Nat) (l' : List ByteArray), j ≤ L ∧ i = .int .i64 j ∧ Kept (Ks w1.heap.size wr u l') ∧ Kept (Sty ⟨op, key⟩ (l.take j) l') ∧ Kept (Below w1.heap.size w1 wr)) (fun _ i _ => L - (intOf i).toNat)
    case atStart => exact ⟨0, [], Nat.zero_le _, rfl, ks_nil _ _, ⟨fun k hk => absurd hk List.not_mem_nil, Nat.zero_le _⟩, Below.refl _ _⟩
    case round =>
      clear c0 c1
      obtain ⟨j, l', hj, rfl, KK, KS, KB⟩ := hrel
      by_cases hlt : j < L
      · have hz : (j : Int) < (L : Int) := by omega
        have hz0 : (0 : Int) ≤ (j : Int) := by omega
        obtain ⟨x, hx⟩ : ∃ x, l[j]? = some x := ⟨_, List.getElem?_eq_getElem (by rw [HL.out]; exact hlt)⟩
        obtain ⟨ao', cap', ea, _, hrd⟩ := HV.out
        injection ea with ea1 ea2 ea3
        subst ea1 ea3
        obtain ⟨g, rfl, hcx⟩ := hrd.resolve_left (fun e => by rw [e] at hx; simp at hx)
        have dx := hcx j x hx
        have hszl := HB.out.size
        have c0 : wr.cell? ⟨w.heap.size, 0, none⟩ = some (.int .i64 op) := (KB.out.cell (p := ⟨w.heap.size, 0, none⟩) hlt0).trans D0.out
        have c1 : wr.cell? ⟨w.heap.size, 1, none⟩ = some (.string key) := (KB.out.cell (p := ⟨w.heap.size, 1, none⟩) hlt0).trans D1.out
        have cx : wr.cell? ⟨g, j, none⟩ = some (.string x) := ((HB.out.trans (KB.out.mono hszl)).cell (p := ⟨g, j, none⟩) (lt_cell dx)).trans dx
        have hll : l'.length ≤ 7000000000000 := by have := KS.out.2; rw [List.length_take] at this; omega
        have KA := keep fun q => app_one w1.heap.size (wr.drewN q) _ l' x (own_kept KK.out (fun _ _ => rfl)) KB.out.size hll
        have HX := keep hx
        clear hx hrd hcx dx ea2 hll hszl
        by_cases q2 : op = 2
        · subst q2
          by_cases qk : x = key
          · subst qk
            have b1 : (x.toList == x.toList) = true := beq_self_eq_true _
            have b2 : (x.toList != x.toList) = false := by simp
            clear KA
            go_wp2_with fail
            go_quiet (fail)
            go_wp2
            go_roundw
            case measure => simp [intOf]; omega
            case rel => exact ⟨j + 1, l', by omega, by go_num, own_kept (w := wr) KK.out (fun _ _ => rfl), sty_drop KS.out HX.out, below_drewN KB.out _⟩
          · have b1 : (x.toList == key.toList) = false := beq_eq_false_iff_ne.2 (fun e => qk (bytes_eq e))
            have b2 : (x.toList != key.toList) = true := by simp [b1, bne]
            go_wp2_with fail
            go_quiet (fail)
            obtain ⟨v', wn, r1, r2, r3⟩ := KA.out nq
            have R1 := keep r1
            have R2 := keep r2
            have R3 := keep ((below_drewN KB.out nq).trans r3)
            have R4 := keep (sty_put KS.out HX.out (by show (2:Int) ≠ 4; decide) (fun _ => qk))
            clear r1 r2 r3 KA KK KB KS c0 c1
            go_wp2_with (at_builtin; refine wpList_app_run rfl _ _ _ rfl _ _ _ rfl rfl R1.out ?_)
            go_roundw
            case measure => simp [intOf]; omega
            case rel => exact ⟨j + 1, l' ++ [x], by omega, by go_num, R2, R4, R3⟩
        · have b1 : (op == 2) = false := beq_eq_false_iff_ne.2 q2
          have b2 : (op != 2) = true := by simp [bne, b1]
          go_wp2_with fail
          go_quiet (fail)
          obtain ⟨v', wn, r1, r2, r3⟩ := KA.out nq
          have R1 := keep r1
          have R2 := keep r2
          have R3 := keep ((below_drewN KB.out nq).trans r3)
          have R4 := keep (sty_put KS.out HX.out q4 (fun e => absurd e q2))
          clear r1 r2 r3 KA KK KB KS c0 c1
          go_wp2_with (at_builtin; refine wpList_app_run rfl _ _ _ rfl _ _ _ rfl rfl R1.out ?_)
          go_roundw
          case measure => simp [intOf]; omega
          case rel => exact ⟨j + 1, l' ++ [x], by omega, by go_num, R2, R4, R3⟩
      · have hz : ¬ (j : Int) < (L : Int) := by omega
        have he : l.take j = l := List.take_of_length_le (by rw [HL.out]; omega)
        rw [he] at KS
        clear he
        go_wp2
        go_ret
        exact ⟨⟨_, rfl, l', own_mono KK.out HB.out.size, KS.out⟩, HB.out.trans (KB.out.mono HB.out.size)⟩
end Go.Proofs.Ytnkladifalnmnaa
