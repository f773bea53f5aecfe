/-
  Contracts over this program: the statements' own put.
-/
import Derived.Test.YtlfkdohajfkhdaaDqOne
namespace Go.Proofs.Ytlfkdohajfkhdaa
open Go.RowKit
set_option linter.unusedVariables false
theorem add_at (g o j : Nat) : (⟨g, o, none⟩ : Addr).add j = ⟨g, o + j, none⟩ := by unfold Addr.add; split <;> simp_all
/-- a piece of a row is appended to a row of one's own -/
theorem app_src {B : Nat} {w : World} {v : Value} {ys zs : List ByteArray} {a : Addr} {m : Nat} (c : Nat) (h1 : Ks B w v ys) (hm : zs.length = m) (hz : ∀ j z, zs[j]? = some z → w.cell? (a.add j) = some (.string z)) (hb : B ≤ w.heap.size) (hl : ys.length + m ≤ 7000000000000) :
    ∃ v' w', (Builtin.append_ #[32, 32] 32 #[v, .slice (some a) m c]).run Try.prog w = .ok v' w' ∧ Ks B w' v' (ys ++ zs) ∧ Below B w w' ∧ w.grownBy w' v.ownBlock := by
  obtain ⟨i0, hi0, hz0, hz1, hz2⟩ := parts_of info_strC
  unfold Ks at h1
  obtain ⟨v', w', r1, r2, r3, _⟩ := run_append_own (P := Try.prog) w B 32 32 9 i0 (.string .empty) 1 16 Try.underlying32 hi0 hz0 hz1 hz2 rfl (by decide) v ys.length _ h1 a m c (zs.map Value.string) (by simp [hm]) (fun j u hu => by
    rw [List.getElem?_map] at hu
    cases e : zs[j]? with
    | none => rw [e] at hu; cases hu
    | some z => rw [e] at hu; cases hu; exact hz j z e) (fun u hu => by
      obtain ⟨y, _, rfl⟩ := List.mem_map.1 hu
      rfl) (by unfold maxLen; omega) (by omega) hb
  refine ⟨v', w', r1, ?_, (Below.refl B w).grown r3 hb (fun k hk => (h1.lt k hk).1), r3⟩
  unfold Ks
  rw [List.length_append, List.map_append, hm]
  exact r2
theorem ks_nil (B : Nat) (w : World) : Ks B w (.slice none 0 0) [] := ⟨rfl, .inl ⟨rfl, rfl⟩⟩
/-- one text more, from a literal -/
theorem app_lit {B : Nat} {w : World} {v : Value} {ys : List ByteArray} (s : ByteArray) (h1 : Ks B w v ys) (hb : B ≤ w.heap.size) (hl : ys.length ≤ 6000000000000) :
    ∃ v' w', (Builtin.append_ #[32, 32] 32 #[v, .slice (some ⟨w.heap.size, 0, none⟩) 1 1]).run Try.prog (w.alloc (.cells #[.string s] 9)) = .ok v' w' ∧ Ks B w' v' (ys ++ [s]) ∧ Below B w w' := by
  have hba : Below B w (w.alloc (.cells #[.string s] 9)) := (Below.refl _ _).alloc hb _
  obtain ⟨v', w', r1, r2, r3, _⟩ := app_src (w := w.alloc (.cells #[.string s] 9)) (zs := [s]) (a := ⟨w.heap.size, 0, none⟩) 1 (own_kept h1 (fun k hk => Below.heap_alloc _ _ _ (own_lt h1 hk))) rfl (fun j z hj => by
    cases j with
    | zero =>
      cases hj
      rw [add_at, cell_of_row _ _ _ _ _ _ (heap_alloc_new _ _)]
      rfl
    | succ j => simp at hj) (by simp; omega) (by simp; omega)
  exact ⟨v', w', r1, r2, hba.trans r3⟩
set_option maxRecDepth 100000 in
set_option maxHeartbeats 2000000 in
theorem putl_any (w : World) (B g n cp : Nat) (xs : List ByteArray) (hk : Ks B w (.slice (some ⟨g, 0, none⟩) n cp) xs) (i : Nat) (hi : i ≤ n) (hn : xs.length = n) (hnc : n ≤ cp) (hcm : n ≤ 6000000000000) (s : ByteArray) :
    Calls Try.prog 19 #[.slice (some ⟨g, 0, none⟩) n cp, .int .i64 i, .string s] w fun e w' => (∃ v', e = .returned v' ∧ Ks w.heap.size w' v' (xs.take i ++ s :: xs.drop i)) ∧ Below w.heap.size w w' := by
  obtain ⟨v1, w1, r1, k1, b1, _⟩ := app_src (zs := xs.take i) (a := ⟨g, 0, none⟩) cp (ks_nil w.heap.size w) (m := i) (by rw [List.length_take]; omega) (fun j z hj => by
    rw [add_at, Nat.zero_add]
    rw [List.getElem?_take] at hj
    split at hj
    · exact hk.at hj
    · cases hj) (Nat.le_refl _) (by simp; omega)
  rw [List.nil_append] at k1
  obtain ⟨v2, w2, r2, k2, b2⟩ := app_lit s k1 b1.size (by rw [List.length_take]; omega)
  have b12 := b1.trans b2
  have hk2 : Ks B w2 (.slice (some ⟨g, 0, none⟩) n cp) xs := own_kept hk (fun k hk' => b12.block k (own_lt hk hk'))
  obtain ⟨a3, ha3⟩ : ∃ a : Addr, a = (if cp = i then ⟨g, 0, none⟩ else ⟨g, i, none⟩) := ⟨_, rfl⟩
  obtain ⟨v3, w3, r3, k3, b3, _⟩ := app_src (zs := xs.drop i) (a := a3) (cp - i) k2 (m := n - i) (by rw [List.length_drop, hn]) (fun j z hj => by
    rw [List.getElem?_drop] at hj
    have hl := (List.getElem?_eq_some_iff.1 hj).1
    rw [ha3, if_neg (by omega), add_at]
    exact hk2.at hj) b12.size (by simp [List.length_take]; omega)
  have R1 := keep r1
  have R2 := keep r2
  have R3 := keep r3
  have K3 := keep k3
  have B3 := keep (b12.trans b3)
  obtain ⟨o1, c1, rfl⟩ := ks_len k1
  obtain ⟨o2, c2, rfl⟩ := ks_len k2
  obtain ⟨o3, c3, rfl⟩ := ks_len k3
  generalize (xs.take i).length = l1 at *
  generalize (xs.take i ++ [s]).length = l2 at *
  have K3 : Kept (Ks w.heap.size w3 (.slice o3 (xs.take i ++ [s] ++ xs.drop i).length c3) (xs.take i ++ s :: xs.drop i)) := by have := K3.out; rwa [List.append_assoc, List.singleton_append] at this ⊢
  generalize (xs.take i ++ [s] ++ xs.drop i).length = l3 at R3 K3
  have i0 : (0 : Int) ≤ (i : Int) := by omega
  have i1 : (i : Int) ≤ (n : Int) := by omega
  have i2 : (i : Int) ≤ (cp : Int) := by omega
  have i3 : (n : Int) ≤ (cp : Int) := by omega
  clear hk r1 r2 r3 k1 k2 k3 b1 b2 b3 b12 hk2
  by_cases hci : cp = i
  · rw [if_pos hci] at ha3
    subst ha3
    obtain rfl : n = i := by omega
    subst hci
    clear hi hn hnc hcm i0 i1 i2 i3
    rw [Nat.sub_self] at R3
    go_enter Try.func19, Try.ntmps19
    go_wp2_with (first | (show wpList _ _ _ ({ dst := some 12, op := Op.call { callee := Callee.builtin Builtin.append, args := _, argTypes := _ }, type := _, pos := _, after := _, guard := _ } :: _) _ _; refine wpL_app_run rfl (.tmp 8) (.tmp 11) 32 rfl _ _ _ rfl rfl R1.out ?_) | (show wpList _ _ _ ({ dst := some 16, op := Op.call { callee := Callee.builtin Builtin.append, args := _, argTypes := _ }, type := _, pos := _, after := _, guard := _ } :: _) _ _; refine wpL_app_run rfl (.tmp 13) (.tmp 15) 32 rfl _ _ _ rfl rfl R2.out ?_) | (show wpList _ _ _ ({ dst := some 21, op := Op.call { callee := Callee.builtin Builtin.append, args := _, argTypes := _ }, type := _, pos := _, after := _, guard := _ } :: _) _ _; refine wpL_app_run rfl (.tmp 17) (.tmp 20) 32 rfl _ _ _ rfl rfl R3.out ?_))
    go_ret
    exact ⟨⟨_, rfl, K3.out⟩, B3.out⟩
  · rw [if_neg hci] at ha3
    subst ha3
    clear hi hn hnc hcm
    go_enter Try.func19, Try.ntmps19
    go_wp2_with (first | (show wpList _ _ _ ({ dst := some 12, op := Op.call { callee := Callee.builtin Builtin.append, args := _, argTypes := _ }, type := _, pos := _, after := _, guard := _ } :: _) _ _; refine wpL_app_run rfl (.tmp 8) (.tmp 11) 32 rfl _ _ _ rfl rfl R1.out ?_) | (show wpList _ _ _ ({ dst := some 16, op := Op.call { callee := Callee.builtin Builtin.append, args := _, argTypes := _ }, type := _, pos := _, after := _, guard := _ } :: _) _ _; refine wpL_app_run rfl (.tmp 13) (.tmp 15) 32 rfl _ _ _ rfl rfl R2.out ?_) | (show wpList _ _ _ ({ dst := some 21, op := Op.call { callee := Callee.builtin Builtin.append, args := _, argTypes := _ }, type := _, pos := _, after := _, guard := _ } :: _) _ _; refine wpL_app_run rfl (.tmp 17) (.tmp 20) 32 rfl _ _ _ rfl rfl R3.out ?_))
    go_ret
    exact ⟨⟨_, rfl, K3.out⟩, B3.out⟩
theorem app_none {B : Nat} {w : World} {v : Value} {ys : List ByteArray} (h1 : Ks B w v ys) : (Builtin.append_ #[32, 32] 32 #[v, .slice none 0 0]).run Try.prog w = .ok v w := by
  obtain ⟨i0, hi0, hz0, hz1, hz2⟩ := parts_of info_strC
  unfold Ks at h1
  exact run_append_owned_none (P := Try.prog) (w := w) B _ _ 9 i0 1 Try.underlying32 hi0 _ ys.length _ h1
set_option maxRecDepth 100000 in
set_option maxHeartbeats 2000000 in
theorem putl_nil (w : World) (s : ByteArray) :
    Calls Try.prog 19 #[.slice none 0 0, .int .i64 0, .string s] w fun e w' => (∃ v', e = .returned v' ∧ Ks w.heap.size w' v' [s]) ∧ Below w.heap.size w w' := by
  have R1 := keep (app_none (ks_nil w.heap.size w))
  obtain ⟨v2, w2, r2, k2, b2⟩ := app_lit s (ks_nil w.heap.size w) (Nat.le_refl _) (by decide)
  have R2 := keep r2
  have R3 := keep (app_none k2)
  have K2 := keep k2
  have B2 := keep b2
  obtain ⟨o2, c2, rfl⟩ := ks_len k2
  clear r2 k2 b2
  rw [List.nil_append] at R2 R3 K2
  generalize [s].length = l2 at R2 R3 K2
  go_enter Try.func19, Try.ntmps19
  go_wp2_with (first | (show wpList _ _ _ ({ dst := some 12, op := Op.call { callee := Callee.builtin Builtin.append, args := _, argTypes := _ }, type := _, pos := _, after := _, guard := _ } :: _) _ _; refine wpL_app_run rfl (.tmp 8) (.tmp 11) 32 rfl _ _ _ rfl rfl R1.out ?_) | (show wpList _ _ _ ({ dst := some 16, op := Op.call { callee := Callee.builtin Builtin.append, args := _, argTypes := _ }, type := _, pos := _, after := _, guard := _ } :: _) _ _; refine wpL_app_run rfl (.tmp 13) (.tmp 15) 32 rfl _ _ _ rfl rfl R2.out ?_) | (show wpList _ _ _ ({ dst := some 21, op := Op.call { callee := Callee.builtin Builtin.append, args := _, argTypes := _ }, type := _, pos := _, after := _, guard := _ } :: _) _ _; refine wpL_app_run rfl (.tmp 17) (.tmp 20) 32 rfl _ _ _ rfl rfl R3.out ?_))
  go_ret
  exact ⟨⟨_, rfl, K2.out⟩, B2.out⟩
/-- put, whatever the row lies in -/
theorem putl (w : World) (B : Nat) (v : Value) (xs : List ByteArray) (hk : Ks B w v xs) (i : Nat) (hi : i ≤ xs.length) (hl : xs.length ≤ 1048576) (s : ByteArray) :
    Calls Try.prog 19 #[v, .int .i64 i, .string s] w fun e w' => (∃ v', e = .returned v' ∧ Ks w.heap.size w' v' (xs.take i ++ s :: xs.drop i)) ∧ Below w.heap.size w w' := by
  have h2 := hk
  unfold Ks at h2
  rcases h2.2 with ⟨rfl, h0⟩ | ⟨g, cap, cur, rfl, _, _, h3, _⟩
  · obtain rfl : xs = [] := List.length_eq_zero_iff.1 h0
    obtain rfl : i = 0 := by simpa using hi
    exact putl_nil w s
  · exact putl_any w B g _ cap xs hk i hi rfl h3 (by omega) s
/-- a deque beside a row of texts: the deque has the texts l', the row l -/
def Ro (W : World) (b : Nat) (v : Value) (l l' : List ByteArray) (w : World) : Prop :=
  ∃ cs, (Dq w b cs ∧ row cs = l' ∧ ∀ k, OwD b cs k → W.heap.size ≤ k) ∧ (Ks W.heap.size w v l ∧ ∀ k, v.ownBlock = some k → ¬ OwD b cs k) ∧ Below W.heap.size W w
theorem Ro.step {W : World} {b : Nat} {v : Value} {l l1 l2 : List ByteArray} {w w' : World} {cs cs' : List Chk} (h : (Dq w b cs ∧ row cs = l1 ∧ ∀ k, OwD b cs k → W.heap.size ≤ k) ∧ (Ks W.heap.size w v l ∧ ∀ k, v.ownBlock = some k → ¬ OwD b cs k) ∧ Below W.heap.size W w)
    (g1 : Dq w' b cs') (g2 : Fd b cs w w' cs') (g3 : row cs' = l2) : Ro W b v l l2 w' := by
  obtain ⟨⟨h1, h2, h3⟩, ⟨h7, h8⟩, h9⟩ := h
  have hz := h9.size
  refine ⟨cs', ⟨g1, g3, fun k hk => ?_⟩, ⟨own_kept h7 fun k hk => ?_, fun k hk e => ?_⟩, h9.trans (g2.below hz fun k hk e => ?_)⟩
  · rcases g2.2 k hk with e | e
    · exact h3 k e
    · omega
  · exact g2.1.2.2 k (own_lt h7 hk) (h8 k hk)
  · rcases g2.2 k e with e | e
    · exact h8 k hk e
    · have := own_lt h7 hk; omega
  · have := h3 k e; omega
theorem Ro.below {W : World} {b : Nat} {v : Value} {l l' : List ByteArray} {w w' : World} (h : Ro W b v l l' w) (hb : Below w.heap.size w w') : Ro W b v l l' w' := by
  obtain ⟨cs, h⟩ := h
  exact Ro.step h (h.1.1.below hb) (Fd.of_below hb) h.1.2.1
/-- another row, laid in new blocks -/
theorem Ro.row {W : World} {b : Nat} {v v2 : Value} {l l2 l' : List ByteArray} {w w' : World} (h : Ro W b v l l' w) (hk : Ks w.heap.size w' v2 l2) (hb : Below w.heap.size w w') : Ro W b v2 l2 l' w' := by
  obtain ⟨cs, ⟨h1, h2, h3⟩, ⟨h7, h8⟩, h9⟩ := h
  have hz := h9.size
  refine ⟨cs, ⟨h1.below hb, h2, h3⟩, ⟨?_, fun k hk' e => ?_⟩, h9.trans (hb.mono hz)⟩
  · refine ⟨hk.1, ?_⟩
    rcases hk.2 with h | ⟨g, cap, cur, e1, e2, e3⟩
    · exact .inl h
    · exact .inr ⟨g, cap, cur, e1, Nat.le_trans hz e2, e3⟩
  · have := h1.1.lt e
    have := (hk.lt k hk').1
    omega
end Go.Proofs.Ytlfkdohajfkhdaa
