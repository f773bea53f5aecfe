/-
  Contracts over this program: what a value holds, and what it tells of that.
-/
import Derived.Test.YtijclcedjgniaaaGreatVlNo
import Derived.Test.YtijclcedjgniaaaGreatVlPlain
namespace Go.Proofs.YtijclcedjgniaaaGreat
open Go.RowKit Go.Shelf
set_option linter.unusedVariables false
set_option linter.unusedSimpArgs false
set_option maxRecDepth 100000
namespace Vl
/-- the value in block b holds x, of the type t -/
def Hol (w : World) (b : Nat) (t : TypeId) (x : Value) : Prop := w.heap[b]? = some (.cells #[.iface t x] 134 (0, 0))
theorem Hol.bel {w w' : World} {b : Nat} {t : TypeId} {x : Value} (h : Hol w b t x) (hb : Below w.heap.size w w') : Hol w' b t x := (hb.block b (Array.getElem?_eq_some_iff.1 h).1).trans h
theorem iface_nil (t : TypeId) (x : Value) (w : World) : (binOp .eql 132 (.iface t x) .nilIface).run Tryz.prog w = .ok (.bool false) w := by rfl
set_option maxHeartbeats 400000 in
theorem content_some {w : World} {b : Nat} {t : TypeId} {x : Value} (h : Hol w b t x) : Calls Tryz.prog 77 #[.pointer (some ⟨b, 0, none⟩)] w fun e w' => e = .returned (.iface t x) ∧ w' = w := by
  have c0 : w.cell? ⟨b, 0, none⟩ = some (.iface t x) := by rw [cell_of_row _ _ _ _ _ _ h]; rfl
  have hn := iface_nil t x
  clear h
  go_enter Tryz.func77, Tryz.ntmps77
  go_wp2
  go_ret
  exact ⟨rfl, rfl⟩
def zV : Value := .agg #[.int .i64 0, .string { data := #[] }, .slice none 0 0, .slice none 0 0, .slice none 0 0]
/-- the cells of plain data that is stored over nothing -/
theorem over {W2 : World} {B : Nat} {v0 v1 v2 v3 v4 : Value} (g2 : W2.heap[B]? = some (.cells #[.int .i64 0, .string { data := #[] }, .slice none 0 0, .slice none 0 0, .slice none 0 0] 43 (0, 0))) :
    (((((W2.setCell ⟨B, 0, none⟩ v0).setCell ⟨B, 1, none⟩ v1).setCell ⟨B, 2, none⟩ v2).setCell ⟨B, 3, none⟩ v3).setCell ⟨B, 4, none⟩ v4).heap[B]? = some (.cells #[v0, v1, v2, v3, v4] 43 (0, 0)) := by
  simp [World.setCell, Array.getElem?_modify, g2]
theorem over_same (W2 : World) (B : Nat) (v0 v1 v2 v3 v4 : Value) (k : Nat) (hk : k ≠ B) :
    (((((W2.setCell ⟨B, 0, none⟩ v0).setCell ⟨B, 1, none⟩ v1).setCell ⟨B, 2, none⟩ v2).setCell ⟨B, 3, none⟩ v3).setCell ⟨B, 4, none⟩ v4).heap[k]? = W2.heap[k]? := by
  rw [Below.heap_setCell _ _ _ _ hk, Below.heap_setCell _ _ _ _ hk, Below.heap_setCell _ _ _ _ hk, Below.heap_setCell _ _ _ _ hk, Below.heap_setCell _ _ _ _ hk]
theorem over_below {w W2 : World} (h : Below w.heap.size w W2) (v0 v1 v2 v3 v4 : Value) :
    Below w.heap.size w (((((W2.setCell ⟨w.heap.size, 0, none⟩ v0).setCell ⟨w.heap.size, 1, none⟩ v1).setCell ⟨w.heap.size, 2, none⟩ v2).setCell ⟨w.heap.size, 3, none⟩ v3).setCell ⟨w.heap.size, 4, none⟩ v4) :=
  ((((h.setCell (Nat.le_refl _) _).setCell (Nat.le_refl _) _).setCell (Nat.le_refl _) _).setCell (Nat.le_refl _) _).setCell (Nat.le_refl _) _
theorem own_ne {w : World} {B e s t : Nat} {v : Value} {n b : Nat} {xs : List Value} {cs : Array Value} {fr : Nat × Nat} (h : w.ownsRow B e s v n xs) (hg : w.heap[b]? = some (.cells cs t fr)) (hne : t ≠ e) : v.ownBlock ≠ some b := by
  intro hv
  rcases h.2 with ⟨rfl, _⟩ | ⟨g, cap, cur, rfl, _, hh, _⟩
  · cases hv
  · cases hv
    rw [hg] at hh
    cases hh
    exact hne rfl
theorem kept_but {w w' : World} {B e s : Nat} {v : Value} {n b : Nat} {xs : List Value} (h : w.ownsRow B e s v n xs) (hk : ∀ k, k ≠ b → w'.heap[k]? = w.heap[k]?) (hb : v.ownBlock ≠ some b) : w'.ownsRow B e s v n xs := by
  refine ⟨h.1, ?_⟩
  rcases h.2 with hn | ⟨g, cap, cur, rfl, hg, hgg, rest⟩
  · exact .inl hn
  · exact .inr ⟨g, cap, cur, rfl, hg, by rw [hk g (fun e => hb (by rw [← e]; rfl))]; exact hgg, rest⟩
theorem five_cells {w : World} {b : Nat} {v0 v1 v2 v3 v4 : Value} {t : TypeId} (h : w.heap[b]? = some (.cells #[v0, v1, v2, v3, v4] t (0, 0))) :
    w.cell? ⟨b, 0, none⟩ = some v0 ∧ w.cell? ⟨b, 1, none⟩ = some v1 ∧ w.cell? ⟨b, 2, none⟩ = some v2 ∧ w.cell? ⟨b, 3, none⟩ = some v3 ∧ w.cell? ⟨b, 4, none⟩ = some v4 := by
  refine ⟨?_, ?_, ?_, ?_, ?_⟩ <;> simp [World.cell?, h]
set_option maxHeartbeats 400000 in
theorem cost_text {w : World} {b : Nat} {s : ByteArray} (h : Hol w b 130 (.string s)) (hs : s.size ≤ maxLen) :
    Calls Tryz.prog 58 #[.pointer (some ⟨b, 0, none⟩)] w fun e w' => e = .returned (.int .i64 (s.size : Int)) ∧ w' = w := by
  have mC := content_some h
  have hm : ∀ w : World, (method 556 130 (.string s) "Cost").run Tryz.prog w = .ok (331, .string s) w := fun _ => by kernel_rfl
  unfold maxLen at hs
  clear h
  go_enter Tryz.func58, Tryz.ntmps58
  go_wp2_with fail
  refine mC.mono ?_
  rintro _ w1 ⟨rfl, rfl⟩
  go_wp2
  go_ret
  exact ⟨rfl, rfl⟩
set_option maxHeartbeats 400000 in
theorem empty_text {w : World} {b : Nat} {s : ByteArray} (h : Hol w b 130 (.string s)) :
    Calls Tryz.prog 69 #[.pointer (some ⟨b, 0, none⟩)] w fun e w' => e = .returned (.bool false) ∧ w' = w := by
  have mC := content_some h
  have ha : ∀ w : World, (Instr.typeAssert (.iface 130 (.string s)) 132 214 true).run Tryz.prog w = .ok (.tuple #[.nilIface, .bool false]) w := fun w => run_typeAssert_lacksB Tryz.underlying214 (by kernel_rfl) (by kernel_rfl) _ _ w
  clear h
  go_enter Tryz.func69, Tryz.ntmps69
  go_wp2_with fail
  refine mC.mono ?_
  rintro _ w1 ⟨rfl, rfl⟩
  go_wp2
  go_ret
  exact ⟨rfl, rfl⟩
set_option maxHeartbeats 400000 in
theorem cost_list {w : World} {b o : Nat} {k : Int} (h : Hol w b 141 (.agg #[.pointer (some ⟨o, 0, none⟩)]))
    (mF : Calls Tryz.prog 326 #[.pointer (some ⟨o, 0, none⟩)] w fun e w' => e = .returned (.int .i64 k) ∧ w' = w) :
    Calls Tryz.prog 58 #[.pointer (some ⟨b, 0, none⟩)] w fun e w' => e = .returned (.int .i64 k) ∧ w' = w := by
  have mC := content_some h
  have hm : ∀ w : World, (method 556 141 (.agg #[.pointer (some ⟨o, 0, none⟩)]) "Cost").run Tryz.prog w = .ok (326, .pointer (some ⟨o, 0, none⟩)) w := fun _ => by kernel_rfl
  clear h
  go_enter Tryz.func58, Tryz.ntmps58
  go_wp2_with fail
  refine mC.mono ?_
  rintro _ w1 ⟨rfl, rfl⟩
  go_wp2_with fail
  refine mF.mono ?_
  rintro _ w1 ⟨rfl, rfl⟩
  go_wp2
  go_ret
  exact ⟨rfl, rfl⟩
set_option maxHeartbeats 400000 in
theorem empty_list {w : World} {b o k : Nat} (h : Hol w b 141 (.agg #[.pointer (some ⟨o, 0, none⟩)]))
    (mF : Calls Tryz.prog 78 #[.pointer (some ⟨o, 0, none⟩)] w fun e w' => e = .returned (.int .i64 (k : Int)) ∧ w' = w) :
    Calls Tryz.prog 69 #[.pointer (some ⟨b, 0, none⟩)] w fun e w' => e = .returned (.bool ((k : Int) == 0)) ∧ w' = w := by
  have mC := content_some h
  have hm : ∀ w : World, (method 556 141 (.agg #[.pointer (some ⟨o, 0, none⟩)]) "Len").run Tryz.prog w = .ok (78, .pointer (some ⟨o, 0, none⟩)) w := fun _ => by kernel_rfl
  have ha : ∀ w : World, (Instr.typeAssert (.iface 141 (.agg #[.pointer (some ⟨o, 0, none⟩)])) 132 214 true).run Tryz.prog w = .ok (.tuple #[.iface 141 (.agg #[.pointer (some ⟨o, 0, none⟩)]), .bool true]) w := fun w => run_typeAssert_hasB Tryz.underlying214 (by kernel_rfl) _ _ w
  clear h
  go_enter Tryz.func69, Tryz.ntmps69
  go_wp2_with fail
  refine mC.mono ?_
  rintro _ w1 ⟨rfl, rfl⟩
  go_wp2_with fail
  refine mF.mono ?_
  rintro _ w1 ⟨rfl, rfl⟩
  go_wp2
  go_ret
  exact ⟨rfl, rfl⟩
set_option maxHeartbeats 400000 in
theorem cost_fields {w : World} {b o : Nat} {k : Int} (h : Hol w b 181 (.agg #[.pointer (some ⟨o, 0, none⟩)]))
    (mF : Calls Tryz.prog 328 #[.pointer (some ⟨o, 0, none⟩)] w fun e w' => e = .returned (.int .i64 k) ∧ w' = w) :
    Calls Tryz.prog 58 #[.pointer (some ⟨b, 0, none⟩)] w fun e w' => e = .returned (.int .i64 k) ∧ w' = w := by
  have mC := content_some h
  have hm : ∀ w : World, (method 556 181 (.agg #[.pointer (some ⟨o, 0, none⟩)]) "Cost").run Tryz.prog w = .ok (328, .pointer (some ⟨o, 0, none⟩)) w := fun _ => by kernel_rfl
  clear h
  go_enter Tryz.func58, Tryz.ntmps58
  go_wp2_with fail
  refine mC.mono ?_
  rintro _ w1 ⟨rfl, rfl⟩
  go_wp2_with fail
  refine mF.mono ?_
  rintro _ w1 ⟨rfl, rfl⟩
  go_wp2
  go_ret
  exact ⟨rfl, rfl⟩
set_option maxHeartbeats 400000 in
theorem empty_fields {w : World} {b o k : Nat} (h : Hol w b 181 (.agg #[.pointer (some ⟨o, 0, none⟩)]))
    (mF : Calls Tryz.prog 329 #[.pointer (some ⟨o, 0, none⟩)] w fun e w' => e = .returned (.int .i64 (k : Int)) ∧ w' = w) :
    Calls Tryz.prog 69 #[.pointer (some ⟨b, 0, none⟩)] w fun e w' => e = .returned (.bool ((k : Int) == 0)) ∧ w' = w := by
  have mC := content_some h
  have hm : ∀ w : World, (method 556 181 (.agg #[.pointer (some ⟨o, 0, none⟩)]) "Len").run Tryz.prog w = .ok (329, .pointer (some ⟨o, 0, none⟩)) w := fun _ => by kernel_rfl
  have ha : ∀ w : World, (Instr.typeAssert (.iface 181 (.agg #[.pointer (some ⟨o, 0, none⟩)])) 132 214 true).run Tryz.prog w = .ok (.tuple #[.iface 181 (.agg #[.pointer (some ⟨o, 0, none⟩)]), .bool true]) w := fun w => run_typeAssert_hasB Tryz.underlying214 (by kernel_rfl) _ _ w
  clear h
  go_enter Tryz.func69, Tryz.ntmps69
  go_wp2_with fail
  refine mC.mono ?_
  rintro _ w1 ⟨rfl, rfl⟩
  go_wp2_with fail
  refine mF.mono ?_
  rintro _ w1 ⟨rfl, rfl⟩
  go_wp2
  go_ret
  exact ⟨rfl, rfl⟩
set_option maxHeartbeats 400000 in
theorem cost_members {w : World} {b o : Nat} {k : Int} (h : Hol w b 173 (.agg #[.pointer (some ⟨o, 0, none⟩)]))
    (mF : Calls Tryz.prog 327 #[.pointer (some ⟨o, 0, none⟩)] w fun e w' => e = .returned (.int .i64 k) ∧ w' = w) :
    Calls Tryz.prog 58 #[.pointer (some ⟨b, 0, none⟩)] w fun e w' => e = .returned (.int .i64 k) ∧ w' = w := by
  have mC := content_some h
  have hm : ∀ w : World, (method 556 173 (.agg #[.pointer (some ⟨o, 0, none⟩)]) "Cost").run Tryz.prog w = .ok (327, .pointer (some ⟨o, 0, none⟩)) w := fun _ => by kernel_rfl
  clear h
  go_enter Tryz.func58, Tryz.ntmps58
  go_wp2_with fail
  refine mC.mono ?_
  rintro _ w1 ⟨rfl, rfl⟩
  go_wp2_with fail
  refine mF.mono ?_
  rintro _ w1 ⟨rfl, rfl⟩
  go_wp2
  go_ret
  exact ⟨rfl, rfl⟩
set_option maxHeartbeats 400000 in
theorem empty_members {w : World} {b o k : Nat} (h : Hol w b 173 (.agg #[.pointer (some ⟨o, 0, none⟩)]))
    (mF : Calls Tryz.prog 94 #[.pointer (some ⟨o, 0, none⟩)] w fun e w' => e = .returned (.int .i64 (k : Int)) ∧ w' = w) :
    Calls Tryz.prog 69 #[.pointer (some ⟨b, 0, none⟩)] w fun e w' => e = .returned (.bool ((k : Int) == 0)) ∧ w' = w := by
  have mC := content_some h
  have hm : ∀ w : World, (method 556 173 (.agg #[.pointer (some ⟨o, 0, none⟩)]) "Len").run Tryz.prog w = .ok (94, .pointer (some ⟨o, 0, none⟩)) w := fun _ => by kernel_rfl
  have ha : ∀ w : World, (Instr.typeAssert (.iface 173 (.agg #[.pointer (some ⟨o, 0, none⟩)])) 132 214 true).run Tryz.prog w = .ok (.tuple #[.iface 173 (.agg #[.pointer (some ⟨o, 0, none⟩)]), .bool true]) w := fun w => run_typeAssert_hasB Tryz.underlying214 (by kernel_rfl) _ _ w
  clear h
  go_enter Tryz.func69, Tryz.ntmps69
  go_wp2_with fail
  refine mC.mono ?_
  rintro _ w1 ⟨rfl, rfl⟩
  go_wp2_with fail
  refine mF.mono ?_
  rintro _ w1 ⟨rfl, rfl⟩
  go_wp2
  go_ret
  exact ⟨rfl, rfl⟩
set_option maxHeartbeats 400000 in
theorem cost_ranked {w : World} {b o : Nat} {k : Int} (h : Hol w b 318 (.agg #[.pointer (some ⟨o, 0, none⟩)]))
    (mF : Calls Tryz.prog 386 #[.pointer (some ⟨o, 0, none⟩)] w fun e w' => e = .returned (.int .i64 k) ∧ w' = w) :
    Calls Tryz.prog 58 #[.pointer (some ⟨b, 0, none⟩)] w fun e w' => e = .returned (.int .i64 k) ∧ w' = w := by
  have mC := content_some h
  have hm : ∀ w : World, (method 556 318 (.agg #[.pointer (some ⟨o, 0, none⟩)]) "Cost").run Tryz.prog w = .ok (386, .pointer (some ⟨o, 0, none⟩)) w := fun _ => by kernel_rfl
  clear h
  go_enter Tryz.func58, Tryz.ntmps58
  go_wp2_with fail
  refine mC.mono ?_
  rintro _ w1 ⟨rfl, rfl⟩
  go_wp2_with fail
  refine mF.mono ?_
  rintro _ w1 ⟨rfl, rfl⟩
  go_wp2
  go_ret
  exact ⟨rfl, rfl⟩
set_option maxHeartbeats 400000 in
theorem empty_ranked {w : World} {b o k : Nat} (h : Hol w b 318 (.agg #[.pointer (some ⟨o, 0, none⟩)]))
    (mF : Calls Tryz.prog 212 #[.pointer (some ⟨o, 0, none⟩)] w fun e w' => e = .returned (.int .i64 (k : Int)) ∧ w' = w) :
    Calls Tryz.prog 69 #[.pointer (some ⟨b, 0, none⟩)] w fun e w' => e = .returned (.bool ((k : Int) == 0)) ∧ w' = w := by
  have mC := content_some h
  have hm : ∀ w : World, (method 556 318 (.agg #[.pointer (some ⟨o, 0, none⟩)]) "Len").run Tryz.prog w = .ok (212, .pointer (some ⟨o, 0, none⟩)) w := fun _ => by kernel_rfl
  have ha : ∀ w : World, (Instr.typeAssert (.iface 318 (.agg #[.pointer (some ⟨o, 0, none⟩)])) 132 214 true).run Tryz.prog w = .ok (.tuple #[.iface 318 (.agg #[.pointer (some ⟨o, 0, none⟩)]), .bool true]) w := fun w => run_typeAssert_hasB Tryz.underlying214 (by kernel_rfl) _ _ w
  clear h
  go_enter Tryz.func69, Tryz.ntmps69
  go_wp2_with fail
  refine mC.mono ?_
  rintro _ w1 ⟨rfl, rfl⟩
  go_wp2_with fail
  refine mF.mono ?_
  rintro _ w1 ⟨rfl, rfl⟩
  go_wp2
  go_ret
  exact ⟨rfl, rfl⟩
set_option maxHeartbeats 1000000 in
theorem plain_text {w : World} {vp : Value} {s : ByteArray} {P : Dt → Prop} (mC : ∀ w', Below w.heap.size w w' → Calls Tryz.prog 77 #[vp] w' fun e w'' => e = .returned (.iface 130 (.string s)) ∧ w'' = w')
    (mP : ∀ w', Below w.heap.size w w' → Calls Tryz.prog 332 #[.string s] w' fun e w'' => (∃ V d', e = .returned V ∧ Pln w'' V d' ∧ P d') ∧ Below w'.heap.size w' w'') :
    Calls Tryz.prog 54 #[vp] w fun e w' => (∃ V d', e = .returned V ∧ Pln w' V d' ∧ P d') ∧ Below w.heap.size w w' := by
  have hm : ∀ w : World, (method 556 130 (.string s) "pantry/value.plain").run Tryz.prog w = .ok (332, .string s) w := fun _ => by kernel_rfl
  obtain ⟨W1, hW1⟩ : ∃ W1, w.alloc (.cells #[.int .i64 0, .string { data := #[] }, .slice none 0 0, .slice none 0 0, .slice none 0 0] 43) = W1 := ⟨_, rfl⟩
  have hb1 : Below w.heap.size w W1 := by rw [← hW1]; exact (Below.refl _ w).alloc (Nat.le_refl _) _
  have hz1 : W1.heap.size = w.heap.size + 1 := by rw [← hW1]; simp
  have g1 : W1.heap[w.heap.size]? = some (.cells #[.int .i64 0, .string { data := #[] }, .slice none 0 0, .slice none 0 0, .slice none 0 0] 43 (0, 0)) := by rw [← hW1]; exact heap_alloc_new _ _
  have mC1 := mC W1 hb1
  have mP1 := mP W1 hb1
  have HW1 := keep hW1
  have HB1 := keep hb1
  have HZ1 := keep hz1
  have G1 := keep g1
  clear mC mP hW1 hb1 hz1 g1
  go_enter Tryz.func54, Tryz.ntmps54
  go_wp2_with fail
  rw [HW1.out]
  refine mC1.mono ?_
  rintro _ w1 ⟨rfl, rfl⟩
  clear mC1 HW1
  go_wp2_with fail
  refine mP1.mono ?_
  rintro _ W2 ⟨⟨V, d, rfl, hP, hd⟩, hb2⟩
  obtain ⟨iv, pv, rv, rfl, a1, a2, a3⟩ := hP
  unfold plV
  have g2 : W2.heap[w.heap.size]? = some (.cells #[.int .i64 0, .string { data := #[] }, .slice none 0 0, .slice none 0 0, .slice none 0 0] 43 (0, 0)) := (hb2.block _ (by have := HZ1.out; omega)).trans G1.out
  have c : ∀ i v, (#[Value.int .i64 0, .string { data := #[] }, .slice none 0 0, .slice none 0 0, .slice none 0 0] : Array Value)[i]? = some v → W2.cell? ⟨w.heap.size, i, none⟩ = some v := fun i v e => by rw [cell_of_row _ _ _ _ _ _ g2]; exact e
  have f : ∀ i, W2.frozen? ⟨w.heap.size, i, none⟩ = false := fun i => by simp [World.frozen?, g2]
  have f0 := f 0
  have f1 := f 1
  have f2 := f 2
  have f3 := f 3
  have f4 := f 4
  have c0 : W2.cell? ⟨w.heap.size, 0, none⟩ = some (.int .i64 0) := c 0 _ rfl
  have c1 : W2.cell? ⟨w.heap.size, 1, none⟩ = some (.string { data := #[] }) := c 1 _ rfl
  have c2 : W2.cell? ⟨w.heap.size, 2, none⟩ = some (.slice none 0 0) := c 2 _ rfl
  have c3 : W2.cell? ⟨w.heap.size, 3, none⟩ = some (.slice none 0 0) := c 3 _ rfl
  have c4 : W2.cell? ⟨w.heap.size, 4, none⟩ = some (.slice none 0 0) := c 4 _ rfl
  have HB2 := keep hb2
  have G2 := keep g2
  have A1 := keep a1
  have A2 := keep a2
  have A3 := keep a3
  have HD := keep hd
  obtain ⟨io, ic, rfl⟩ := own_sl a1
  obtain ⟨po, pc, rfl⟩ := own_sl a2
  obtain ⟨ro, rc, rfl⟩ := own_sl a3
  generalize d.items.length = n1 at *
  generalize d.pairs.length = n2 at *
  generalize d.ranks.length = n3 at *
  clear c f mP1 hb2 g2 a1 a2 a3 hd
  go_wp2
  have HX := over (v0 := .int .i64 d.kind) (v1 := .string d.text) (v2 := .slice io n1 ic) (v3 := .slice po n2 pc) (v4 := .slice ro n3 rc) G2.out
  have HY := over_same W2 w.heap.size (.int .i64 d.kind) (.string d.text) (.slice io n1 ic) (.slice po n2 pc) (.slice ro n3 rc)
  have HZ := over_below (HB1.out.trans (HB2.out.mono HB1.out.size)) (.int .i64 d.kind) (.string d.text) (.slice io n1 ic) (.slice po n2 pc) (.slice ro n3 rc)
  generalize ((((W2.setCell ⟨w.heap.size, 0, none⟩ (.int .i64 d.kind)).setCell ⟨w.heap.size, 1, none⟩ (.string d.text)).setCell ⟨w.heap.size, 2, none⟩ (.slice io n1 ic)).setCell ⟨w.heap.size, 3, none⟩ (.slice po n2 pc)).setCell ⟨w.heap.size, 4, none⟩ (.slice ro n3 rc) = W3 at HX HY HZ
  obtain ⟨k0, k1, k2, k3, k4⟩ := five_cells HX
  refine bodyPost_ret (v := plV d (.slice io n1 ic) (.slice po n2 pc) (.slice ro n3 rc)) (by unfold plV; simp [results, Tryz.results54, go_sem, k0, k1, k2, k3, k4]) rfl ⟨⟨_, d, rfl, ⟨_, _, _, rfl, ?_, ?_, ?_⟩, HD.out⟩, HZ⟩
  · exact kept_but A1.out HY (own_ne A1.out G2.out (by decide))
  · exact kept_but A2.out HY (own_ne A2.out G2.out (by decide))
  · exact kept_but A3.out HY (own_ne A3.out G2.out (by decide))
set_option maxHeartbeats 1000000 in
theorem plain_list {w : World} {vp : Value} {o : Nat} {P : Dt → Prop} (mC : ∀ w', Below w.heap.size w w' → Calls Tryz.prog 77 #[vp] w' fun e w'' => e = .returned (.iface 141 (.agg #[.pointer (some ⟨o, 0, none⟩)])) ∧ w'' = w')
    (mP : ∀ w', Below w.heap.size w w' → Calls Tryz.prog 335 #[.agg #[.pointer (some ⟨o, 0, none⟩)]] w' fun e w'' => (∃ V d', e = .returned V ∧ Pln w'' V d' ∧ P d') ∧ Below w'.heap.size w' w'') :
    Calls Tryz.prog 54 #[vp] w fun e w' => (∃ V d', e = .returned V ∧ Pln w' V d' ∧ P d') ∧ Below w.heap.size w w' := by
  have hm : ∀ w : World, (method 556 141 (.agg #[.pointer (some ⟨o, 0, none⟩)]) "pantry/value.plain").run Tryz.prog w = .ok (335, .agg #[.pointer (some ⟨o, 0, none⟩)]) w := fun _ => by kernel_rfl
  obtain ⟨W1, hW1⟩ : ∃ W1, w.alloc (.cells #[.int .i64 0, .string { data := #[] }, .slice none 0 0, .slice none 0 0, .slice none 0 0] 43) = W1 := ⟨_, rfl⟩
  have hb1 : Below w.heap.size w W1 := by rw [← hW1]; exact (Below.refl _ w).alloc (Nat.le_refl _) _
  have hz1 : W1.heap.size = w.heap.size + 1 := by rw [← hW1]; simp
  have g1 : W1.heap[w.heap.size]? = some (.cells #[.int .i64 0, .string { data := #[] }, .slice none 0 0, .slice none 0 0, .slice none 0 0] 43 (0, 0)) := by rw [← hW1]; exact heap_alloc_new _ _
  have mC1 := mC W1 hb1
  have mP1 := mP W1 hb1
  have HW1 := keep hW1
  have HB1 := keep hb1
  have HZ1 := keep hz1
  have G1 := keep g1
  clear mC mP hW1 hb1 hz1 g1
  go_enter Tryz.func54, Tryz.ntmps54
  go_wp2_with fail
  rw [HW1.out]
  refine mC1.mono ?_
  rintro _ w1 ⟨rfl, rfl⟩
  clear mC1 HW1
  go_wp2_with fail
  refine mP1.mono ?_
  rintro _ W2 ⟨⟨V, d, rfl, hP, hd⟩, hb2⟩
  obtain ⟨iv, pv, rv, rfl, a1, a2, a3⟩ := hP
  unfold plV
  have g2 : W2.heap[w.heap.size]? = some (.cells #[.int .i64 0, .string { data := #[] }, .slice none 0 0, .slice none 0 0, .slice none 0 0] 43 (0, 0)) := (hb2.block _ (by have := HZ1.out; omega)).trans G1.out
  have c : ∀ i v, (#[Value.int .i64 0, .string { data := #[] }, .slice none 0 0, .slice none 0 0, .slice none 0 0] : Array Value)[i]? = some v → W2.cell? ⟨w.heap.size, i, none⟩ = some v := fun i v e => by rw [cell_of_row _ _ _ _ _ _ g2]; exact e
  have f : ∀ i, W2.frozen? ⟨w.heap.size, i, none⟩ = false := fun i => by simp [World.frozen?, g2]
  have f0 := f 0
  have f1 := f 1
  have f2 := f 2
  have f3 := f 3
  have f4 := f 4
  have c0 : W2.cell? ⟨w.heap.size, 0, none⟩ = some (.int .i64 0) := c 0 _ rfl
  have c1 : W2.cell? ⟨w.heap.size, 1, none⟩ = some (.string { data := #[] }) := c 1 _ rfl
  have c2 : W2.cell? ⟨w.heap.size, 2, none⟩ = some (.slice none 0 0) := c 2 _ rfl
  have c3 : W2.cell? ⟨w.heap.size, 3, none⟩ = some (.slice none 0 0) := c 3 _ rfl
  have c4 : W2.cell? ⟨w.heap.size, 4, none⟩ = some (.slice none 0 0) := c 4 _ rfl
  have HB2 := keep hb2
  have G2 := keep g2
  have A1 := keep a1
  have A2 := keep a2
  have A3 := keep a3
  have HD := keep hd
  obtain ⟨io, ic, rfl⟩ := own_sl a1
  obtain ⟨po, pc, rfl⟩ := own_sl a2
  obtain ⟨ro, rc, rfl⟩ := own_sl a3
  generalize d.items.length = n1 at *
  generalize d.pairs.length = n2 at *
  generalize d.ranks.length = n3 at *
  clear c f mP1 hb2 g2 a1 a2 a3 hd
  go_wp2
  have HX := over (v0 := .int .i64 d.kind) (v1 := .string d.text) (v2 := .slice io n1 ic) (v3 := .slice po n2 pc) (v4 := .slice ro n3 rc) G2.out
  have HY := over_same W2 w.heap.size (.int .i64 d.kind) (.string d.text) (.slice io n1 ic) (.slice po n2 pc) (.slice ro n3 rc)
  have HZ := over_below (HB1.out.trans (HB2.out.mono HB1.out.size)) (.int .i64 d.kind) (.string d.text) (.slice io n1 ic) (.slice po n2 pc) (.slice ro n3 rc)
  generalize ((((W2.setCell ⟨w.heap.size, 0, none⟩ (.int .i64 d.kind)).setCell ⟨w.heap.size, 1, none⟩ (.string d.text)).setCell ⟨w.heap.size, 2, none⟩ (.slice io n1 ic)).setCell ⟨w.heap.size, 3, none⟩ (.slice po n2 pc)).setCell ⟨w.heap.size, 4, none⟩ (.slice ro n3 rc) = W3 at HX HY HZ
  obtain ⟨k0, k1, k2, k3, k4⟩ := five_cells HX
  refine bodyPost_ret (v := plV d (.slice io n1 ic) (.slice po n2 pc) (.slice ro n3 rc)) (by unfold plV; simp [results, Tryz.results54, go_sem, k0, k1, k2, k3, k4]) rfl ⟨⟨_, d, rfl, ⟨_, _, _, rfl, ?_, ?_, ?_⟩, HD.out⟩, HZ⟩
  · exact kept_but A1.out HY (own_ne A1.out G2.out (by decide))
  · exact kept_but A2.out HY (own_ne A2.out G2.out (by decide))
  · exact kept_but A3.out HY (own_ne A3.out G2.out (by decide))
set_option maxHeartbeats 1000000 in
theorem plain_fields {w : World} {vp : Value} {o : Nat} {P : Dt → Prop} (mC : ∀ w', Below w.heap.size w w' → Calls Tryz.prog 77 #[vp] w' fun e w'' => e = .returned (.iface 181 (.agg #[.pointer (some ⟨o, 0, none⟩)])) ∧ w'' = w')
    (mP : ∀ w', Below w.heap.size w w' → Calls Tryz.prog 354 #[.agg #[.pointer (some ⟨o, 0, none⟩)]] w' fun e w'' => (∃ V d', e = .returned V ∧ Pln w'' V d' ∧ P d') ∧ Below w'.heap.size w' w'') :
    Calls Tryz.prog 54 #[vp] w fun e w' => (∃ V d', e = .returned V ∧ Pln w' V d' ∧ P d') ∧ Below w.heap.size w w' := by
  have hm : ∀ w : World, (method 556 181 (.agg #[.pointer (some ⟨o, 0, none⟩)]) "pantry/value.plain").run Tryz.prog w = .ok (354, .agg #[.pointer (some ⟨o, 0, none⟩)]) w := fun _ => by kernel_rfl
  obtain ⟨W1, hW1⟩ : ∃ W1, w.alloc (.cells #[.int .i64 0, .string { data := #[] }, .slice none 0 0, .slice none 0 0, .slice none 0 0] 43) = W1 := ⟨_, rfl⟩
  have hb1 : Below w.heap.size w W1 := by rw [← hW1]; exact (Below.refl _ w).alloc (Nat.le_refl _) _
  have hz1 : W1.heap.size = w.heap.size + 1 := by rw [← hW1]; simp
  have g1 : W1.heap[w.heap.size]? = some (.cells #[.int .i64 0, .string { data := #[] }, .slice none 0 0, .slice none 0 0, .slice none 0 0] 43 (0, 0)) := by rw [← hW1]; exact heap_alloc_new _ _
  have mC1 := mC W1 hb1
  have mP1 := mP W1 hb1
  have HW1 := keep hW1
  have HB1 := keep hb1
  have HZ1 := keep hz1
  have G1 := keep g1
  clear mC mP hW1 hb1 hz1 g1
  go_enter Tryz.func54, Tryz.ntmps54
  go_wp2_with fail
  rw [HW1.out]
  refine mC1.mono ?_
  rintro _ w1 ⟨rfl, rfl⟩
  clear mC1 HW1
  go_wp2_with fail
  refine mP1.mono ?_
  rintro _ W2 ⟨⟨V, d, rfl, hP, hd⟩, hb2⟩
  obtain ⟨iv, pv, rv, rfl, a1, a2, a3⟩ := hP
  unfold plV
  have g2 : W2.heap[w.heap.size]? = some (.cells #[.int .i64 0, .string { data := #[] }, .slice none 0 0, .slice none 0 0, .slice none 0 0] 43 (0, 0)) := (hb2.block _ (by have := HZ1.out; omega)).trans G1.out
  have c : ∀ i v, (#[Value.int .i64 0, .string { data := #[] }, .slice none 0 0, .slice none 0 0, .slice none 0 0] : Array Value)[i]? = some v → W2.cell? ⟨w.heap.size, i, none⟩ = some v := fun i v e => by rw [cell_of_row _ _ _ _ _ _ g2]; exact e
  have f : ∀ i, W2.frozen? ⟨w.heap.size, i, none⟩ = false := fun i => by simp [World.frozen?, g2]
  have f0 := f 0
  have f1 := f 1
  have f2 := f 2
  have f3 := f 3
  have f4 := f 4
  have c0 : W2.cell? ⟨w.heap.size, 0, none⟩ = some (.int .i64 0) := c 0 _ rfl
  have c1 : W2.cell? ⟨w.heap.size, 1, none⟩ = some (.string { data := #[] }) := c 1 _ rfl
  have c2 : W2.cell? ⟨w.heap.size, 2, none⟩ = some (.slice none 0 0) := c 2 _ rfl
  have c3 : W2.cell? ⟨w.heap.size, 3, none⟩ = some (.slice none 0 0) := c 3 _ rfl
  have c4 : W2.cell? ⟨w.heap.size, 4, none⟩ = some (.slice none 0 0) := c 4 _ rfl
  have HB2 := keep hb2
  have G2 := keep g2
  have A1 := keep a1
  have A2 := keep a2
  have A3 := keep a3
  have HD := keep hd
  obtain ⟨io, ic, rfl⟩ := own_sl a1
  obtain ⟨po, pc, rfl⟩ := own_sl a2
  obtain ⟨ro, rc, rfl⟩ := own_sl a3
  generalize d.items.length = n1 at *
  generalize d.pairs.length = n2 at *
  generalize d.ranks.length = n3 at *
  clear c f mP1 hb2 g2 a1 a2 a3 hd
  go_wp2
  have HX := over (v0 := .int .i64 d.kind) (v1 := .string d.text) (v2 := .slice io n1 ic) (v3 := .slice po n2 pc) (v4 := .slice ro n3 rc) G2.out
  have HY := over_same W2 w.heap.size (.int .i64 d.kind) (.string d.text) (.slice io n1 ic) (.slice po n2 pc) (.slice ro n3 rc)
  have HZ := over_below (HB1.out.trans (HB2.out.mono HB1.out.size)) (.int .i64 d.kind) (.string d.text) (.slice io n1 ic) (.slice po n2 pc) (.slice ro n3 rc)
  generalize ((((W2.setCell ⟨w.heap.size, 0, none⟩ (.int .i64 d.kind)).setCell ⟨w.heap.size, 1, none⟩ (.string d.text)).setCell ⟨w.heap.size, 2, none⟩ (.slice io n1 ic)).setCell ⟨w.heap.size, 3, none⟩ (.slice po n2 pc)).setCell ⟨w.heap.size, 4, none⟩ (.slice ro n3 rc) = W3 at HX HY HZ
  obtain ⟨k0, k1, k2, k3, k4⟩ := five_cells HX
  refine bodyPost_ret (v := plV d (.slice io n1 ic) (.slice po n2 pc) (.slice ro n3 rc)) (by unfold plV; simp [results, Tryz.results54, go_sem, k0, k1, k2, k3, k4]) rfl ⟨⟨_, d, rfl, ⟨_, _, _, rfl, ?_, ?_, ?_⟩, HD.out⟩, HZ⟩
  · exact kept_but A1.out HY (own_ne A1.out G2.out (by decide))
  · exact kept_but A2.out HY (own_ne A2.out G2.out (by decide))
  · exact kept_but A3.out HY (own_ne A3.out G2.out (by decide))
set_option maxHeartbeats 1000000 in
theorem plain_members {w : World} {vp : Value} {o : Nat} {P : Dt → Prop} (mC : ∀ w', Below w.heap.size w w' → Calls Tryz.prog 77 #[vp] w' fun e w'' => e = .returned (.iface 173 (.agg #[.pointer (some ⟨o, 0, none⟩)])) ∧ w'' = w')
    (mP : ∀ w', Below w.heap.size w w' → Calls Tryz.prog 340 #[.agg #[.pointer (some ⟨o, 0, none⟩)]] w' fun e w'' => (∃ V d', e = .returned V ∧ Pln w'' V d' ∧ P d') ∧ Below w'.heap.size w' w'') :
    Calls Tryz.prog 54 #[vp] w fun e w' => (∃ V d', e = .returned V ∧ Pln w' V d' ∧ P d') ∧ Below w.heap.size w w' := by
  have hm : ∀ w : World, (method 556 173 (.agg #[.pointer (some ⟨o, 0, none⟩)]) "pantry/value.plain").run Tryz.prog w = .ok (340, .agg #[.pointer (some ⟨o, 0, none⟩)]) w := fun _ => by kernel_rfl
  obtain ⟨W1, hW1⟩ : ∃ W1, w.alloc (.cells #[.int .i64 0, .string { data := #[] }, .slice none 0 0, .slice none 0 0, .slice none 0 0] 43) = W1 := ⟨_, rfl⟩
  have hb1 : Below w.heap.size w W1 := by rw [← hW1]; exact (Below.refl _ w).alloc (Nat.le_refl _) _
  have hz1 : W1.heap.size = w.heap.size + 1 := by rw [← hW1]; simp
  have g1 : W1.heap[w.heap.size]? = some (.cells #[.int .i64 0, .string { data := #[] }, .slice none 0 0, .slice none 0 0, .slice none 0 0] 43 (0, 0)) := by rw [← hW1]; exact heap_alloc_new _ _
  have mC1 := mC W1 hb1
  have mP1 := mP W1 hb1
  have HW1 := keep hW1
  have HB1 := keep hb1
  have HZ1 := keep hz1
  have G1 := keep g1
  clear mC mP hW1 hb1 hz1 g1
  go_enter Tryz.func54, Tryz.ntmps54
  go_wp2_with fail
  rw [HW1.out]
  refine mC1.mono ?_
  rintro _ w1 ⟨rfl, rfl⟩
  clear mC1 HW1
  go_wp2_with fail
  refine mP1.mono ?_
  rintro _ W2 ⟨⟨V, d, rfl, hP, hd⟩, hb2⟩
  obtain ⟨iv, pv, rv, rfl, a1, a2, a3⟩ := hP
  unfold plV
  have g2 : W2.heap[w.heap.size]? = some (.cells #[.int .i64 0, .string { data := #[] }, .slice none 0 0, .slice none 0 0, .slice none 0 0] 43 (0, 0)) := (hb2.block _ (by have := HZ1.out; omega)).trans G1.out
  have c : ∀ i v, (#[Value.int .i64 0, .string { data := #[] }, .slice none 0 0, .slice none 0 0, .slice none 0 0] : Array Value)[i]? = some v → W2.cell? ⟨w.heap.size, i, none⟩ = some v := fun i v e => by rw [cell_of_row _ _ _ _ _ _ g2]; exact e
  have f : ∀ i, W2.frozen? ⟨w.heap.size, i, none⟩ = false := fun i => by simp [World.frozen?, g2]
  have f0 := f 0
  have f1 := f 1
  have f2 := f 2
  have f3 := f 3
  have f4 := f 4
  have c0 : W2.cell? ⟨w.heap.size, 0, none⟩ = some (.int .i64 0) := c 0 _ rfl
  have c1 : W2.cell? ⟨w.heap.size, 1, none⟩ = some (.string { data := #[] }) := c 1 _ rfl
  have c2 : W2.cell? ⟨w.heap.size, 2, none⟩ = some (.slice none 0 0) := c 2 _ rfl
  have c3 : W2.cell? ⟨w.heap.size, 3, none⟩ = some (.slice none 0 0) := c 3 _ rfl
  have c4 : W2.cell? ⟨w.heap.size, 4, none⟩ = some (.slice none 0 0) := c 4 _ rfl
  have HB2 := keep hb2
  have G2 := keep g2
  have A1 := keep a1
  have A2 := keep a2
  have A3 := keep a3
  have HD := keep hd
  obtain ⟨io, ic, rfl⟩ := own_sl a1
  obtain ⟨po, pc, rfl⟩ := own_sl a2
  obtain ⟨ro, rc, rfl⟩ := own_sl a3
  generalize d.items.length = n1 at *
  generalize d.pairs.length = n2 at *
  generalize d.ranks.length = n3 at *
  clear c f mP1 hb2 g2 a1 a2 a3 hd
  go_wp2
  have HX := over (v0 := .int .i64 d.kind) (v1 := .string d.text) (v2 := .slice io n1 ic) (v3 := .slice po n2 pc) (v4 := .slice ro n3 rc) G2.out
  have HY := over_same W2 w.heap.size (.int .i64 d.kind) (.string d.text) (.slice io n1 ic) (.slice po n2 pc) (.slice ro n3 rc)
  have HZ := over_below (HB1.out.trans (HB2.out.mono HB1.out.size)) (.int .i64 d.kind) (.string d.text) (.slice io n1 ic) (.slice po n2 pc) (.slice ro n3 rc)
  generalize ((((W2.setCell ⟨w.heap.size, 0, none⟩ (.int .i64 d.kind)).setCell ⟨w.heap.size, 1, none⟩ (.string d.text)).setCell ⟨w.heap.size, 2, none⟩ (.slice io n1 ic)).setCell ⟨w.heap.size, 3, none⟩ (.slice po n2 pc)).setCell ⟨w.heap.size, 4, none⟩ (.slice ro n3 rc) = W3 at HX HY HZ
  obtain ⟨k0, k1, k2, k3, k4⟩ := five_cells HX
  refine bodyPost_ret (v := plV d (.slice io n1 ic) (.slice po n2 pc) (.slice ro n3 rc)) (by unfold plV; simp [results, Tryz.results54, go_sem, k0, k1, k2, k3, k4]) rfl ⟨⟨_, d, rfl, ⟨_, _, _, rfl, ?_, ?_, ?_⟩, HD.out⟩, HZ⟩
  · exact kept_but A1.out HY (own_ne A1.out G2.out (by decide))
  · exact kept_but A2.out HY (own_ne A2.out G2.out (by decide))
  · exact kept_but A3.out HY (own_ne A3.out G2.out (by decide))
set_option maxHeartbeats 1000000 in
theorem plain_ranked {w : World} {vp : Value} {o : Nat} {P : Dt → Prop} (mC : ∀ w', Below w.heap.size w w' → Calls Tryz.prog 77 #[vp] w' fun e w'' => e = .returned (.iface 318 (.agg #[.pointer (some ⟨o, 0, none⟩)])) ∧ w'' = w')
    (mP : ∀ w', Below w.heap.size w w' → Calls Tryz.prog 404 #[.agg #[.pointer (some ⟨o, 0, none⟩)]] w' fun e w'' => (∃ V d', e = .returned V ∧ Pln w'' V d' ∧ P d') ∧ Below w'.heap.size w' w'') :
    Calls Tryz.prog 54 #[vp] w fun e w' => (∃ V d', e = .returned V ∧ Pln w' V d' ∧ P d') ∧ Below w.heap.size w w' := by
  have hm : ∀ w : World, (method 556 318 (.agg #[.pointer (some ⟨o, 0, none⟩)]) "pantry/value.plain").run Tryz.prog w = .ok (404, .agg #[.pointer (some ⟨o, 0, none⟩)]) w := fun _ => by kernel_rfl
  obtain ⟨W1, hW1⟩ : ∃ W1, w.alloc (.cells #[.int .i64 0, .string { data := #[] }, .slice none 0 0, .slice none 0 0, .slice none 0 0] 43) = W1 := ⟨_, rfl⟩
  have hb1 : Below w.heap.size w W1 := by rw [← hW1]; exact (Below.refl _ w).alloc (Nat.le_refl _) _
  have hz1 : W1.heap.size = w.heap.size + 1 := by rw [← hW1]; simp
  have g1 : W1.heap[w.heap.size]? = some (.cells #[.int .i64 0, .string { data := #[] }, .slice none 0 0, .slice none 0 0, .slice none 0 0] 43 (0, 0)) := by rw [← hW1]; exact heap_alloc_new _ _
  have mC1 := mC W1 hb1
  have mP1 := mP W1 hb1
  have HW1 := keep hW1
  have HB1 := keep hb1
  have HZ1 := keep hz1
  have G1 := keep g1
  clear mC mP hW1 hb1 hz1 g1
  go_enter Tryz.func54, Tryz.ntmps54
  go_wp2_with fail
  rw [HW1.out]
  refine mC1.mono ?_
  rintro _ w1 ⟨rfl, rfl⟩
  clear mC1 HW1
  go_wp2_with fail
  refine mP1.mono ?_
  rintro _ W2 ⟨⟨V, d, rfl, hP, hd⟩, hb2⟩
  obtain ⟨iv, pv, rv, rfl, a1, a2, a3⟩ := hP
  unfold plV
  have g2 : W2.heap[w.heap.size]? = some (.cells #[.int .i64 0, .string { data := #[] }, .slice none 0 0, .slice none 0 0, .slice none 0 0] 43 (0, 0)) := (hb2.block _ (by have := HZ1.out; omega)).trans G1.out
  have c : ∀ i v, (#[Value.int .i64 0, .string { data := #[] }, .slice none 0 0, .slice none 0 0, .slice none 0 0] : Array Value)[i]? = some v → W2.cell? ⟨w.heap.size, i, none⟩ = some v := fun i v e => by rw [cell_of_row _ _ _ _ _ _ g2]; exact e
  have f : ∀ i, W2.frozen? ⟨w.heap.size, i, none⟩ = false := fun i => by simp [World.frozen?, g2]
  have f0 := f 0
  have f1 := f 1
  have f2 := f 2
  have f3 := f 3
  have f4 := f 4
  have c0 : W2.cell? ⟨w.heap.size, 0, none⟩ = some (.int .i64 0) := c 0 _ rfl
  have c1 : W2.cell? ⟨w.heap.size, 1, none⟩ = some (.string { data := #[] }) := c 1 _ rfl
  have c2 : W2.cell? ⟨w.heap.size, 2, none⟩ = some (.slice none 0 0) := c 2 _ rfl
  have c3 : W2.cell? ⟨w.heap.size, 3, none⟩ = some (.slice none 0 0) := c 3 _ rfl
  have c4 : W2.cell? ⟨w.heap.size, 4, none⟩ = some (.slice none 0 0) := c 4 _ rfl
  have HB2 := keep hb2
  have G2 := keep g2
  have A1 := keep a1
  have A2 := keep a2
  have A3 := keep a3
  have HD := keep hd
  obtain ⟨io, ic, rfl⟩ := own_sl a1
  obtain ⟨po, pc, rfl⟩ := own_sl a2
  obtain ⟨ro, rc, rfl⟩ := own_sl a3
  generalize d.items.length = n1 at *
  generalize d.pairs.length = n2 at *
  generalize d.ranks.length = n3 at *
  clear c f mP1 hb2 g2 a1 a2 a3 hd
  go_wp2
  have HX := over (v0 := .int .i64 d.kind) (v1 := .string d.text) (v2 := .slice io n1 ic) (v3 := .slice po n2 pc) (v4 := .slice ro n3 rc) G2.out
  have HY := over_same W2 w.heap.size (.int .i64 d.kind) (.string d.text) (.slice io n1 ic) (.slice po n2 pc) (.slice ro n3 rc)
  have HZ := over_below (HB1.out.trans (HB2.out.mono HB1.out.size)) (.int .i64 d.kind) (.string d.text) (.slice io n1 ic) (.slice po n2 pc) (.slice ro n3 rc)
  generalize ((((W2.setCell ⟨w.heap.size, 0, none⟩ (.int .i64 d.kind)).setCell ⟨w.heap.size, 1, none⟩ (.string d.text)).setCell ⟨w.heap.size, 2, none⟩ (.slice io n1 ic)).setCell ⟨w.heap.size, 3, none⟩ (.slice po n2 pc)).setCell ⟨w.heap.size, 4, none⟩ (.slice ro n3 rc) = W3 at HX HY HZ
  obtain ⟨k0, k1, k2, k3, k4⟩ := five_cells HX
  refine bodyPost_ret (v := plV d (.slice io n1 ic) (.slice po n2 pc) (.slice ro n3 rc)) (by unfold plV; simp [results, Tryz.results54, go_sem, k0, k1, k2, k3, k4]) rfl ⟨⟨_, d, rfl, ⟨_, _, _, rfl, ?_, ?_, ?_⟩, HD.out⟩, HZ⟩
  · exact kept_but A1.out HY (own_ne A1.out G2.out (by decide))
  · exact kept_but A2.out HY (own_ne A2.out G2.out (by decide))
  · exact kept_but A3.out HY (own_ne A3.out G2.out (by decide))
set_option maxHeartbeats 1000000 in
theorem plain_nothing {w : World} {vp : Value} {P : Dt → Prop} (mC : ∀ w', Below w.heap.size w w' → Calls Tryz.prog 77 #[vp] w' fun e w'' => e = .returned (.iface 230 (.agg #[])) ∧ w'' = w')
    (mP : ∀ w', Below w.heap.size w w' → Calls Tryz.prog 390 #[.agg #[]] w' fun e w'' => (∃ V d', e = .returned V ∧ Pln w'' V d' ∧ P d') ∧ Below w'.heap.size w' w'') :
    Calls Tryz.prog 54 #[vp] w fun e w' => (∃ V d', e = .returned V ∧ Pln w' V d' ∧ P d') ∧ Below w.heap.size w w' := by
  have hm : ∀ w : World, (method 556 230 (.agg #[]) "pantry/value.plain").run Tryz.prog w = .ok (390, .agg #[]) w := fun _ => by kernel_rfl
  obtain ⟨W1, hW1⟩ : ∃ W1, w.alloc (.cells #[.int .i64 0, .string { data := #[] }, .slice none 0 0, .slice none 0 0, .slice none 0 0] 43) = W1 := ⟨_, rfl⟩
  have hb1 : Below w.heap.size w W1 := by rw [← hW1]; exact (Below.refl _ w).alloc (Nat.le_refl _) _
  have hz1 : W1.heap.size = w.heap.size + 1 := by rw [← hW1]; simp
  have g1 : W1.heap[w.heap.size]? = some (.cells #[.int .i64 0, .string { data := #[] }, .slice none 0 0, .slice none 0 0, .slice none 0 0] 43 (0, 0)) := by rw [← hW1]; exact heap_alloc_new _ _
  have mC1 := mC W1 hb1
  have mP1 := mP W1 hb1
  have HW1 := keep hW1
  have HB1 := keep hb1
  have HZ1 := keep hz1
  have G1 := keep g1
  clear mC mP hW1 hb1 hz1 g1
  go_enter Tryz.func54, Tryz.ntmps54
  go_wp2_with fail
  rw [HW1.out]
  refine mC1.mono ?_
  rintro _ w1 ⟨rfl, rfl⟩
  clear mC1 HW1
  go_wp2_with fail
  refine mP1.mono ?_
  rintro _ W2 ⟨⟨V, d, rfl, hP, hd⟩, hb2⟩
  obtain ⟨iv, pv, rv, rfl, a1, a2, a3⟩ := hP
  unfold plV
  have g2 : W2.heap[w.heap.size]? = some (.cells #[.int .i64 0, .string { data := #[] }, .slice none 0 0, .slice none 0 0, .slice none 0 0] 43 (0, 0)) := (hb2.block _ (by have := HZ1.out; omega)).trans G1.out
  have c : ∀ i v, (#[Value.int .i64 0, .string { data := #[] }, .slice none 0 0, .slice none 0 0, .slice none 0 0] : Array Value)[i]? = some v → W2.cell? ⟨w.heap.size, i, none⟩ = some v := fun i v e => by rw [cell_of_row _ _ _ _ _ _ g2]; exact e
  have f : ∀ i, W2.frozen? ⟨w.heap.size, i, none⟩ = false := fun i => by simp [World.frozen?, g2]
  have f0 := f 0
  have f1 := f 1
  have f2 := f 2
  have f3 := f 3
  have f4 := f 4
  have c0 : W2.cell? ⟨w.heap.size, 0, none⟩ = some (.int .i64 0) := c 0 _ rfl
  have c1 : W2.cell? ⟨w.heap.size, 1, none⟩ = some (.string { data := #[] }) := c 1 _ rfl
  have c2 : W2.cell? ⟨w.heap.size, 2, none⟩ = some (.slice none 0 0) := c 2 _ rfl
  have c3 : W2.cell? ⟨w.heap.size, 3, none⟩ = some (.slice none 0 0) := c 3 _ rfl
  have c4 : W2.cell? ⟨w.heap.size, 4, none⟩ = some (.slice none 0 0) := c 4 _ rfl
  have HB2 := keep hb2
  have G2 := keep g2
  have A1 := keep a1
  have A2 := keep a2
  have A3 := keep a3
  have HD := keep hd
  obtain ⟨io, ic, rfl⟩ := own_sl a1
  obtain ⟨po, pc, rfl⟩ := own_sl a2
  obtain ⟨ro, rc, rfl⟩ := own_sl a3
  generalize d.items.length = n1 at *
  generalize d.pairs.length = n2 at *
  generalize d.ranks.length = n3 at *
  clear c f mP1 hb2 g2 a1 a2 a3 hd
  go_wp2
  have HX := over (v0 := .int .i64 d.kind) (v1 := .string d.text) (v2 := .slice io n1 ic) (v3 := .slice po n2 pc) (v4 := .slice ro n3 rc) G2.out
  have HY := over_same W2 w.heap.size (.int .i64 d.kind) (.string d.text) (.slice io n1 ic) (.slice po n2 pc) (.slice ro n3 rc)
  have HZ := over_below (HB1.out.trans (HB2.out.mono HB1.out.size)) (.int .i64 d.kind) (.string d.text) (.slice io n1 ic) (.slice po n2 pc) (.slice ro n3 rc)
  generalize ((((W2.setCell ⟨w.heap.size, 0, none⟩ (.int .i64 d.kind)).setCell ⟨w.heap.size, 1, none⟩ (.string d.text)).setCell ⟨w.heap.size, 2, none⟩ (.slice io n1 ic)).setCell ⟨w.heap.size, 3, none⟩ (.slice po n2 pc)).setCell ⟨w.heap.size, 4, none⟩ (.slice ro n3 rc) = W3 at HX HY HZ
  obtain ⟨k0, k1, k2, k3, k4⟩ := five_cells HX
  refine bodyPost_ret (v := plV d (.slice io n1 ic) (.slice po n2 pc) (.slice ro n3 rc)) (by unfold plV; simp [results, Tryz.results54, go_sem, k0, k1, k2, k3, k4]) rfl ⟨⟨_, d, rfl, ⟨_, _, _, rfl, ?_, ?_, ?_⟩, HD.out⟩, HZ⟩
  · exact kept_but A1.out HY (own_ne A1.out G2.out (by decide))
  · exact kept_but A2.out HY (own_ne A2.out G2.out (by decide))
  · exact kept_but A3.out HY (own_ne A3.out G2.out (by decide))
end Vl
end Go.Proofs.YtijclcedjgniaaaGreat
