/-
  Contracts over this program: the text that a step names.
-/
import Derived.Test.YtlfpkbjiofelkaaGreatRdV1
import Derived.Test.YtlfpkbjiofelkaaGreatFlOpen
import Derived.Laws.Concat
namespace Go.Proofs.YtlfpkbjiofelkaaGreat
open Go.RowKit Go.Shelf
set_option linter.unusedVariables false
set_option linter.unusedSimpArgs false
set_option maxRecDepth 100000
namespace Rd
theorem info_u8D : (Tryz.prog.info? 5).map (fun i => (i.zero, i.size, i.bytes)) = some (some (.int .u8 0), 1, 1) := by kernel_rfl
theorem own_atD {B : Nat} {w : World} {e g n cap j : Nat} {xs : List Value} {x : Value} (h : w.ownsRow B e 1 (.slice (some ⟨g, 0, none⟩) n cap) n xs) (hx : xs[j]? = some x) : w.cell? ⟨g, j, none⟩ = some x := by
  have add : ∀ i, (⟨g, 0, none⟩ : Addr).add i = ⟨g, i, none⟩ := by intro i; unfold Addr.add; split <;> simp_all
  have := h.cells (g := g) rfl j x hx
  rwa [add] at this
/-- so many bytes 0 -/
def zer (n : Nat) : ByteArray := ⟨(List.replicate n (0 : UInt8)).toArray⟩
theorem zer_size (n : Nat) : (zer n).size = n := by show (List.replicate n (0 : UInt8)).toArray.size = n; simp
theorem zeros_at (w : World) (n : Nat) (hn : n ≤ 2097152) :
    ∃ w', (Instr.makeSlice 66 (.int .i64 (n : Int)) (.int .i64 (n : Int))).run Tryz.prog w = .ok (.slice (some ⟨w.heap.size, 0, none⟩) n n) w' ∧ (convert 66 9 (.slice (some ⟨w.heap.size, 0, none⟩) n n)).run Tryz.prog w' = .ok (.string (zer n)) w' ∧ Below w.heap.size w w' := by
  obtain ⟨i0, hi0, hz0, hz1, hz2⟩ := info_parts info_u8D
  obtain ⟨w', h1, h2, h3⟩ := run_make_full (P := Tryz.prog) w w.heap.size 66 5 i0 (.int .u8 0) 1 Tryz.underlying66 hi0 hz0 hz1 .i64 .i64 n (by rw [hz2]; omega) (by unfold maxLen; omega) (Nat.le_refl _)
  have hl : (List.replicate n (0 : UInt8)).length = n := List.length_replicate
  refine ⟨w', h1, ?_, (Below.refl _ w).grown h3 (Nat.le_refl _) (fun k hk => by cases hk)⟩
  have hb := run_convert_bytes_back (P := Tryz.prog) w' 66 9 5 ⟨w.heap.size, 0, none⟩ n (List.replicate n 0) Tryz.underlying66 Tryz.underlying5 Tryz.underlying9 (fun j hj => by
    rw [hl] at hj
    have e : (⟨w.heap.size, 0, none⟩ : Addr).add j = ⟨w.heap.size, j, none⟩ := by unfold Addr.add; split <;> simp_all
    rw [e, List.getElem_replicate]
    refine own_atD h2 ?_
    show (madeCells #[.int .u8 0] (n * 1)).toList[j]? = _
    rw [toList_madeCells_one, Nat.mul_one, List.getElem?_replicate, if_pos hj]
    rfl)
  rw [hl] at hb
  exact hb
/-- one byte -/
def bt (k : Nat) : ByteArray := ⟨[UInt8.ofNat k].toArray⟩
theorem bt_size (k : Nat) : (bt k).size = 1 := rfl
theorem byte_at (w : World) (k : Nat) (hk : k < 256) : (convert 66 9 (.slice (some ⟨w.heap.size, 0, none⟩) 1 1)).run Tryz.prog (w.alloc (.cells #[.int .u8 (k : Int)] 5)) = .ok (.string (bt k)) (w.alloc (.cells #[.int .u8 (k : Int)] 5)) := by
  have hb := run_convert_bytes_back (P := Tryz.prog) (w.alloc (.cells #[.int .u8 (k : Int)] 5)) 66 9 5 ⟨w.heap.size, 0, none⟩ 1 [UInt8.ofNat k] Tryz.underlying66 Tryz.underlying5 Tryz.underlying9 (fun j hj => by
    have hj0 : j = 0 := by simp at hj; omega
    subst hj0
    have e : (⟨w.heap.size, 0, none⟩ : Addr).add 0 = ⟨w.heap.size, 0, none⟩ := by unfold Addr.add; split <;> simp_all
    have e2 : ((UInt8.ofNat k).toNat : Int) = (k : Int) := by rw [UInt8.toNat_ofNat']; congr 1; omega
    show _ = some (Value.int .u8 ((UInt8.ofNat k).toNat : Int))
    rw [e, e2]
    have hn : (w.alloc (.cells #[.int .u8 (k : Int)] 5)).heap[w.heap.size]? = some (.cells #[.int .u8 (k : Int)] 5 (0, 0)) := heap_alloc_new _ _
    simp only [World.cell?, hn]
    rfl)
  exact hb
/-- the text that a step names -/
def memT (f : ByteArray) (big : Int) : ByteArray := if big ≤ 0 then f else f ++ zer (min big 1048578).toNat
theorem memT_size {f : ByteArray} (hf : f.size ≤ 1048576) (big : Int) : (memT f big).size ≤ maxLen := by
  unfold memT maxLen
  split
  · omega
  · rw [ByteArray.size_append, zer_size]; omega
theorem sixc {w : World} {b : Nat} {v0 v1 v2 v3 v4 v5 : Value} {t : TypeId} (h : w.heap[b]? = some (.cells #[v0, v1, v2, v3, v4, v5] t (0, 0))) :
    w.cell? ⟨b, 0, none⟩ = some v0 ∧ w.cell? ⟨b, 1, none⟩ = some v1 ∧ w.cell? ⟨b, 2, none⟩ = some v2 ∧ w.cell? ⟨b, 3, none⟩ = some v3 ∧ w.cell? ⟨b, 4, none⟩ = some v4 ∧ w.cell? ⟨b, 5, none⟩ = some v5 := by
  refine ⟨?_, ?_, ?_, ?_, ?_, ?_⟩ <;> simp [World.cell?, h]
set_option maxHeartbeats 4000000 in
theorem member_any (who op : Int) (f : ByteArray) (big : Int) (n : Nat) (cnt : Int) (hf : f.size ≤ 1048576) (w : World) :
    Calls Tryz.prog 25 #[.agg #[.int .i64 who, .int .i64 op, .string f, .int .i64 big, .int .u64 (n : Int), .int .i64 cnt]] w fun e w' => e = .returned (.string (memT f big)) ∧ Below w.heap.size w w' := by
  unfold memT
  obtain ⟨X, hX⟩ : ∃ X, w.heap.size = X := ⟨_, rfl⟩
  obtain ⟨W1, hW1⟩ : ∃ W1, w.alloc (.cells #[.int .i64 who, .int .i64 op, .string f, .int .i64 big, .int .u64 (n : Int), .int .i64 cnt] 32) = W1 := ⟨_, rfl⟩
  have hb1 : Below w.heap.size w W1 := by rw [← hW1]; exact (Below.refl _ w).alloc (Nat.le_refl _) _
  have g1 : W1.heap[X]? = some (.cells #[.int .i64 who, .int .i64 op, .string f, .int .i64 big, .int .u64 (n : Int), .int .i64 cnt] 32 (0, 0)) := by rw [← hW1, ← hX]; exact heap_alloc_new _ _
  obtain ⟨c0, c1, c2, c3, c4, c5⟩ := sixc g1
  have B1 := keep hb1
  have HF := keep hf
  clear hb1 g1 c0 c1 c4 c5 hf
  by_cases hb : big ≤ 0
  · rw [if_pos hb]
    go_enter Tryz.func25, Tryz.ntmps25
    go_wp2
    go_ret
    exact ⟨rfl, B1.out⟩
  · rw [if_neg hb]
    have hbz : ¬ big ≤ 0 := hb
    obtain ⟨m, hm⟩ : ∃ m : Nat, min big 1048578 = (m : Int) := ⟨(min big 1048578).toNat, by omega⟩
    have hm2 : m ≤ 1048578 := by omega
    rw [hm, show ((m : Int)).toNat = m from rfl]
    have hadd : ∀ w : World, (Op.stringOp .add f (zer m)).run Tryz.prog w = .ok (.string (f ++ zer m)) w := fun w => run_string_add_sum w _ _ (by rw [zer_size]; have := HF.out; omega)
    have B2 : Kept (Below W1.heap.size W1 W1.drew) := (Below.refl _ W1).drew
    go_enter Tryz.func25, Tryz.ntmps25
    go_wp2_with fail
    refine wp_region_held_drew (S := fun W => W.cell? ⟨X, 2, none⟩ = some (.string f) ∧ W.cell? ⟨X, 3, none⟩ = some (.int .i64 big)) (by kernel_rfl) ⟨(by simpa using c2), (by simpa using c3)⟩ (fun hHeld => ?_)
    refine wpAnyH_take (i := 0) (oi := { dst := some 8, op := _, type := _, pos := _, after := _, guard := _ }) (v := ?v1) rfl (by kernel_rfl) (by kernel_rfl) (by kernel_rfl) (fun _ _ _ h => h) (Or.inl ⟨by rfl, ?hy1⟩) (by assumption) ?rest1
    case hy1 => (intro w hSw; obtain ⟨q1,q2⟩ := hSw; go_simp; try with_reducible rfl)
    try simp only [Act.put, List.setIfInBounds_toArray, List.set_cons_zero, List.set_cons_succ]
    refine wpAnyH_take (i := 1) (oi := { dst := some 9, op := _, type := _, pos := _, after := _, guard := _ }) (v := ?v2) rfl (by kernel_rfl) (by kernel_rfl) (by kernel_rfl) (fun _ _ _ h => h) (Or.inl ⟨by rfl, ?hy2⟩) (by assumption) ?rest2
    case hy2 => (intro w hSw; obtain ⟨q1,q2⟩ := hSw; go_simp; try with_reducible rfl)
    try simp only [Act.put, List.setIfInBounds_toArray, List.set_cons_zero, List.set_cons_succ]
    refine wpAnyH_take (i := 2) (oi := { dst := some 10, op := _, type := _, pos := _, after := _, guard := _ }) (v := ?v3) rfl (by kernel_rfl) (by kernel_rfl) (by kernel_rfl) (fun _ _ _ h => h) (Or.inl ⟨by rfl, ?hy3⟩) (by assumption) ?rest3
    case hy3 => (intro w hSw; obtain ⟨q1,q2⟩ := hSw; go_simp; try with_reducible rfl)
    try simp only [Act.put, List.setIfInBounds_toArray, List.set_cons_zero, List.set_cons_succ]
    refine wpAnyH_take (i := 3) (oi := { dst := some 11, op := _, type := _, pos := _, after := _, guard := _ }) (v := ?v4) rfl (by kernel_rfl) (by kernel_rfl) (by kernel_rfl) (fun _ _ _ h => h) (Or.inl ⟨by rfl, ?hy4⟩) (by assumption) ?rest4
    case hy4 => (intro w hSw; obtain ⟨q1,q2⟩ := hSw; go_simp; try with_reducible rfl)
    try simp only [Act.put, List.setIfInBounds_toArray, List.set_cons_zero, List.set_cons_succ]
    refine wpAnyH_take (i := 4) (oi := { dst := some 12, op := _, type := _, pos := _, after := _, guard := _ }) (v := (.int .i64 (m : Int))) rfl (by kernel_rfl) (by kernel_rfl) (by kernel_rfl) (fun _ _ _ h => h) (Or.inl ⟨by rfl, ?hy5⟩) (by assumption) ?rest5
    case hy5 => (intro w hSw; obtain ⟨q1,q2⟩ := hSw; first | (go_simp; done) | (go_simp; simp [*]; done) | (simp [*]; go_simp; done))
    try simp only [Act.put, List.setIfInBounds_toArray, List.set_cons_zero, List.set_cons_succ]
    obtain ⟨w2, r1, r2, b3⟩ := zeros_at W1.drew m (by omega)
    have hb3 : Below W1.heap.size W1 w2 := bup B2.out b3
    have e1 := hHeld.1
    have e2 := hHeld.2
    have H1 : Kept (w2.cell? ⟨X, 2, none⟩ = some (.string f)) := (b3.cell (World.block_lt_of_cell? _ _ e1)).trans e1
    have H2 : Kept (w2.cell? ⟨X, 3, none⟩ = some (.int .i64 big)) := (b3.cell (World.block_lt_of_cell? _ _ e2)).trans e2
    have HB3 := keep hb3
    have R2 := keep r2
    clear hb3 b3 r2 e1 e2
    generalize W1.drew = Wd at *
    refine wpAnyH_ready (rs := [5]) (by kernel_rfl) (by simp) ?_
    refine AllReadyH.cons (o := { dst := some 13, op := _, type := _, pos := _, after := _, guard := _ }) rfl (fun K hK => ?_) AllReadyH.nil
    go_simp
    refine hK.out _ _ ⟨H1.out, H2.out⟩ (fun hHeld => ?_)
    try simp only [Act.put, List.setIfInBounds_toArray, List.set_cons_zero, List.set_cons_succ]
    clear hK r1
    refine wpAnyH_ready (rs := [6]) (by kernel_rfl) (by simp) ?_
    refine AllReadyH.cons (o := { dst := some 14, op := _, type := _, pos := _, after := _, guard := _ }) rfl (fun K hK => ?_) AllReadyH.nil
    have cv := R2.out
    go_simp
    refine hK.out _ _ ⟨H1.out, H2.out⟩ (fun hHeld => ?_)
    try simp only [Act.put, List.setIfInBounds_toArray, List.set_cons_zero, List.set_cons_succ]
    clear hK cv
    refine wpAnyH_take (i := 7) (oi := { dst := some 15, op := _, type := _, pos := _, after := _, guard := _ }) (v := (.string (f ++ zer m))) rfl (by kernel_rfl) (by kernel_rfl) (by kernel_rfl) (fun _ _ _ h => h) (Or.inl ⟨by rfl, ?hy6⟩) (by assumption) ?rest6
    case hy6 => (intro w hSw; first | (go_simp; done) | (go_simp; simp [*]; done) | (simp [*]; go_simp; done))
    try simp only [Act.put, List.setIfInBounds_toArray, List.set_cons_zero, List.set_cons_succ]
    refine wpAnyH_take (i := 8) (oi := { dst := some 2, op := _, type := _, pos := _, after := _, guard := _ }) (v := ?v7) rfl (by kernel_rfl) (by kernel_rfl) (by kernel_rfl) (fun _ _ _ h => h) (Or.inl ⟨by rfl, ?hy7⟩) (by assumption) ?rest7
    case hy7 => (intro w hSw; go_simp; try with_reducible rfl)
    try simp only [Act.put, List.setIfInBounds_toArray, List.set_cons_zero, List.set_cons_succ]
    refine wpAnyH_done (by kernel_rfl) ?_ _
    clear hHeld
    go_wp2
    go_ret
    exact ⟨rfl, bup B1.out HB3.out⟩
end Rd
end Go.Proofs.YtlfpkbjiofelkaaGreat
