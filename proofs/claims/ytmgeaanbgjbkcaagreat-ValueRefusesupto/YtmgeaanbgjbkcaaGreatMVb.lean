/-
  Contracts over this program, put together.
-/
import Derived.Test.YtmgeaanbgjbkcaaGreatMVa
import Derived.Test.YtmgeaanbgjbkcaaGreatMQa
import Derived.Maps.OwnSet
import Derived.Maps.OwnIn
import Derived.Maps.Views
set_option maxHeartbeats 8000000
namespace Go.Proofs.YtmgeaanbgjbkcaaGreat
open Go.RowKit Go.Shelf
set_option linter.unusedVariables false
set_option linter.unusedSimpArgs false
set_option maxRecDepth 100000
namespace Vl
def Hol (w : World) (b : Nat) (t : TypeId) (x : Value) : Prop := w.heap[b]? = some (.cells #[.iface t x] 117 (0, 0))
theorem Hol.bel {w w' : World} {b : Nat} {t : TypeId} {x : Value} (h : Hol w b t x) (hb : Below w.heap.size w w') : Hol w' b t x := (hb.block b (Array.getElem?_eq_some_iff.1 h).1).trans h
theorem iface_nil (t : TypeId) (x : Value) (w : World) : (binOp .eql 108 (.iface t x) .nilIface).run Tryz.prog w = .ok (.bool false) w := by rfl
theorem content_some {w : World} {b : Nat} {t : TypeId} {x : Value} (h : Hol w b t x) : Calls Tryz.prog 59 #[.pointer (some ⟨b, 0, none⟩)] w fun e w' => e = .returned (.iface t x) ∧ w' = w := by
  have c0 : w.cell? ⟨b, 0, none⟩ = some (.iface t x) := by rw [cell_of_row _ _ _ _ _ _ h]; rfl
  have hn := iface_nil t x
  clear h
  go_enter Tryz.func59, Tryz.ntmps59
  go_wp2
  go_ret
  exact ⟨rfl, rfl⟩
theorem over {W2 : World} {B : Nat} {v0 v1 v2 v3 v4 : Value} (g2 : W2.heap[B]? = some (.cells #[.int .i64 0, .string { data := #[] }, .slice none 0 0, .slice none 0 0, .slice none 0 0] 30 (0, 0))) :
    (((((W2.setCell ⟨B, 0, none⟩ v0).setCell ⟨B, 1, none⟩ v1).setCell ⟨B, 2, none⟩ v2).setCell ⟨B, 3, none⟩ v3).setCell ⟨B, 4, none⟩ v4).heap[B]? = some (.cells #[v0, v1, v2, v3, v4] 30 (0, 0)) := by
  simp [World.setCell, Array.getElem?_modify, g2]
theorem over_same (W2 : World) (B : Nat) (v0 v1 v2 v3 v4 : Value) (k : Nat) (hk : k ≠ B) :
    (((((W2.setCell ⟨B, 0, none⟩ v0).setCell ⟨B, 1, none⟩ v1).setCell ⟨B, 2, none⟩ v2).setCell ⟨B, 3, none⟩ v3).setCell ⟨B, 4, none⟩ v4).heap[k]? = W2.heap[k]? := by
  rw [Below.heap_setCell _ _ _ _ hk, Below.heap_setCell _ _ _ _ hk, Below.heap_setCell _ _ _ _ hk, Below.heap_setCell _ _ _ _ hk, Below.heap_setCell _ _ _ _ hk]
theorem over_below {w W2 : World} (h : Below w.heap.size w W2) (v0 v1 v2 v3 v4 : Value) :
    Below w.heap.size w (((((W2.setCell ⟨w.heap.size, 0, none⟩ v0).setCell ⟨w.heap.size, 1, none⟩ v1).setCell ⟨w.heap.size, 2, none⟩ v2).setCell ⟨w.heap.size, 3, none⟩ v3).setCell ⟨w.heap.size, 4, none⟩ v4) :=
  ((((h.setCell (Nat.le_refl _) _).setCell (Nat.le_refl _) _).setCell (Nat.le_refl _) _).setCell (Nat.le_refl _) _).setCell (Nat.le_refl _) _
theorem own_ne {w : World} {B e s t : Nat} {v : Value} {n b : Nat} {xs : List Value} {cs : Array Value} {fr : Nat × Nat} (h : w.ownsRow B e s v n xs) (hg : w.heap[b]? = some (.cells cs t fr)) (hne : t ≠ e) : v.ownBlock ≠ some b := by
  intro hv
  rcases h.2 with ⟨rfl, _⟩ | ⟨g, cap, cur, rfl, _, hh, _⟩
  · cases hv
  · cases hv
    rw [hg] at hh
    cases hh
    exact hne rfl
theorem kept_but {w w' : World} {B e s : Nat} {v : Value} {n b : Nat} {xs : List Value} (h : w.ownsRow B e s v n xs) (hk : ∀ k, k ≠ b → w'.heap[k]? = w.heap[k]?) (hb : v.ownBlock ≠ some b) : w'.ownsRow B e s v n xs := by
  refine ⟨h.1, ?_⟩
  rcases h.2 with hn | ⟨g, cap, cur, rfl, hg, hgg, rest⟩
  · exact .inl hn
  · exact .inr ⟨g, cap, cur, rfl, hg, by rw [hk g (fun e => hb (by rw [← e]; rfl))]; exact hgg, rest⟩
theorem five_cells {w : World} {b : Nat} {v0 v1 v2 v3 v4 : Value} {t : TypeId} (h : w.heap[b]? = some (.cells #[v0, v1, v2, v3, v4] t (0, 0))) :
    w.cell? ⟨b, 0, none⟩ = some v0 ∧ w.cell? ⟨b, 1, none⟩ = some v1 ∧ w.cell? ⟨b, 2, none⟩ = some v2 ∧ w.cell? ⟨b, 3, none⟩ = some v3 ∧ w.cell? ⟨b, 4, none⟩ = some v4 := by
  refine ⟨?_, ?_, ?_, ?_, ?_⟩ <;> simp [World.cell?, h]
theorem cost_text {w : World} {b : Nat} {s : ByteArray} (h : Hol w b 121 (.string s)) (hs : s.size ≤ maxLen) :
    Calls Tryz.prog 16 #[.pointer (some ⟨b, 0, none⟩)] w fun e w' => e = .returned (.int .i64 (s.size : Int)) ∧ w' = w := by
  have mC := content_some h
  have hm : ∀ w : World, (method 516 121 (.string s) "Cost").run Tryz.prog w = .ok (307, .string s) w := fun _ => by kernel_rfl
  unfold maxLen at hs
  clear h
  go_enter Tryz.func16, Tryz.ntmps16
  go_wp2_with fail
  refine mC.mono ?_
  rintro _ w1 ⟨rfl, rfl⟩
  go_wp2
  go_ret
  exact ⟨rfl, rfl⟩
theorem empty_text {w : World} {b : Nat} {s : ByteArray} (h : Hol w b 121 (.string s)) :
    Calls Tryz.prog 37 #[.pointer (some ⟨b, 0, none⟩)] w fun e w' => e = .returned (.bool false) ∧ w' = w := by
  have mC := content_some h
  have ha : ∀ w : World, (Instr.typeAssert (.iface 121 (.string s)) 108 140 true).run Tryz.prog w = .ok (.tuple #[.nilIface, .bool false]) w := fun w => run_typeAssert_lacksB Tryz.underlying140 (by kernel_rfl) (by kernel_rfl) _ _ w
  clear h
  go_enter Tryz.func37, Tryz.ntmps37
  go_wp2_with fail
  refine mC.mono ?_
  rintro _ w1 ⟨rfl, rfl⟩
  go_wp2
  go_ret
  exact ⟨rfl, rfl⟩
theorem cost_list {w : World} {b o : Nat} {k : Int} (h : Hol w b 124 (.agg #[.pointer (some ⟨o, 0, none⟩)]))
    (mF : Calls Tryz.prog 303 #[.pointer (some ⟨o, 0, none⟩)] w fun e w' => e = .returned (.int .i64 k) ∧ w' = w) :
    Calls Tryz.prog 16 #[.pointer (some ⟨b, 0, none⟩)] w fun e w' => e = .returned (.int .i64 k) ∧ w' = w := by
  have mC := content_some h
  have hm : ∀ w : World, (method 516 124 (.agg #[.pointer (some ⟨o, 0, none⟩)]) "Cost").run Tryz.prog w = .ok (303, .pointer (some ⟨o, 0, none⟩)) w := fun _ => by kernel_rfl
  clear h
  go_enter Tryz.func16, Tryz.ntmps16
  go_wp2_with fail
  refine mC.mono ?_
  rintro _ w1 ⟨rfl, rfl⟩
  go_wp2_with fail
  refine mF.mono ?_
  rintro _ w1 ⟨rfl, rfl⟩
  go_wp2
  go_ret
  exact ⟨rfl, rfl⟩
theorem empty_list {w : World} {b o k : Nat} (h : Hol w b 124 (.agg #[.pointer (some ⟨o, 0, none⟩)]))
    (mF : Calls Tryz.prog 114 #[.pointer (some ⟨o, 0, none⟩)] w fun e w' => e = .returned (.int .i64 (k : Int)) ∧ w' = w) :
    Calls Tryz.prog 37 #[.pointer (some ⟨b, 0, none⟩)] w fun e w' => e = .returned (.bool ((k : Int) == 0)) ∧ w' = w := by
  have mC := content_some h
  have hm : ∀ w : World, (method 516 124 (.agg #[.pointer (some ⟨o, 0, none⟩)]) "Len").run Tryz.prog w = .ok (114, .pointer (some ⟨o, 0, none⟩)) w := fun _ => by kernel_rfl
  have ha : ∀ w : World, (Instr.typeAssert (.iface 124 (.agg #[.pointer (some ⟨o, 0, none⟩)])) 108 140 true).run Tryz.prog w = .ok (.tuple #[.iface 124 (.agg #[.pointer (some ⟨o, 0, none⟩)]), .bool true]) w := fun w => run_typeAssert_hasB Tryz.underlying140 (by kernel_rfl) _ _ w
  clear h
  go_enter Tryz.func37, Tryz.ntmps37
  go_wp2_with fail
  refine mC.mono ?_
  rintro _ w1 ⟨rfl, rfl⟩
  go_wp2_with fail
  refine mF.mono ?_
  rintro _ w1 ⟨rfl, rfl⟩
  go_wp2
  go_ret
  exact ⟨rfl, rfl⟩
theorem cost_fields {w : World} {b o : Nat} {k : Int} (h : Hol w b 127 (.agg #[.pointer (some ⟨o, 0, none⟩)]))
    (mF : Calls Tryz.prog 304 #[.pointer (some ⟨o, 0, none⟩)] w fun e w' => e = .returned (.int .i64 k) ∧ w' = w) :
    Calls Tryz.prog 16 #[.pointer (some ⟨b, 0, none⟩)] w fun e w' => e = .returned (.int .i64 k) ∧ w' = w := by
  have mC := content_some h
  have hm : ∀ w : World, (method 516 127 (.agg #[.pointer (some ⟨o, 0, none⟩)]) "Cost").run Tryz.prog w = .ok (304, .pointer (some ⟨o, 0, none⟩)) w := fun _ => by kernel_rfl
  clear h
  go_enter Tryz.func16, Tryz.ntmps16
  go_wp2_with fail
  refine mC.mono ?_
  rintro _ w1 ⟨rfl, rfl⟩
  go_wp2_with fail
  refine mF.mono ?_
  rintro _ w1 ⟨rfl, rfl⟩
  go_wp2
  go_ret
  exact ⟨rfl, rfl⟩
theorem empty_fields {w : World} {b o k : Nat} (h : Hol w b 127 (.agg #[.pointer (some ⟨o, 0, none⟩)]))
    (mF : Calls Tryz.prog 115 #[.pointer (some ⟨o, 0, none⟩)] w fun e w' => e = .returned (.int .i64 (k : Int)) ∧ w' = w) :
    Calls Tryz.prog 37 #[.pointer (some ⟨b, 0, none⟩)] w fun e w' => e = .returned (.bool ((k : Int) == 0)) ∧ w' = w := by
  have mC := content_some h
  have hm : ∀ w : World, (method 516 127 (.agg #[.pointer (some ⟨o, 0, none⟩)]) "Len").run Tryz.prog w = .ok (115, .pointer (some ⟨o, 0, none⟩)) w := fun _ => by kernel_rfl
  have ha : ∀ w : World, (Instr.typeAssert (.iface 127 (.agg #[.pointer (some ⟨o, 0, none⟩)])) 108 140 true).run Tryz.prog w = .ok (.tuple #[.iface 127 (.agg #[.pointer (some ⟨o, 0, none⟩)]), .bool true]) w := fun w => run_typeAssert_hasB Tryz.underlying140 (by kernel_rfl) _ _ w
  clear h
  go_enter Tryz.func37, Tryz.ntmps37
  go_wp2_with fail
  refine mC.mono ?_
  rintro _ w1 ⟨rfl, rfl⟩
  go_wp2_with fail
  refine mF.mono ?_
  rintro _ w1 ⟨rfl, rfl⟩
  go_wp2
  go_ret
  exact ⟨rfl, rfl⟩
theorem cost_members {w : World} {b o : Nat} {k : Int} (h : Hol w b 130 (.agg #[.pointer (some ⟨o, 0, none⟩)]))
    (mF : Calls Tryz.prog 305 #[.pointer (some ⟨o, 0, none⟩)] w fun e w' => e = .returned (.int .i64 k) ∧ w' = w) :
    Calls Tryz.prog 16 #[.pointer (some ⟨b, 0, none⟩)] w fun e w' => e = .returned (.int .i64 k) ∧ w' = w := by
  have mC := content_some h
  have hm : ∀ w : World, (method 516 130 (.agg #[.pointer (some ⟨o, 0, none⟩)]) "Cost").run Tryz.prog w = .ok (305, .pointer (some ⟨o, 0, none⟩)) w := fun _ => by kernel_rfl
  clear h
  go_enter Tryz.func16, Tryz.ntmps16
  go_wp2_with fail
  refine mC.mono ?_
  rintro _ w1 ⟨rfl, rfl⟩
  go_wp2_with fail
  refine mF.mono ?_
  rintro _ w1 ⟨rfl, rfl⟩
  go_wp2
  go_ret
  exact ⟨rfl, rfl⟩
theorem empty_members {w : World} {b o k : Nat} (h : Hol w b 130 (.agg #[.pointer (some ⟨o, 0, none⟩)]))
    (mF : Calls Tryz.prog 116 #[.pointer (some ⟨o, 0, none⟩)] w fun e w' => e = .returned (.int .i64 (k : Int)) ∧ w' = w) :
    Calls Tryz.prog 37 #[.pointer (some ⟨b, 0, none⟩)] w fun e w' => e = .returned (.bool ((k : Int) == 0)) ∧ w' = w := by
  have mC := content_some h
  have hm : ∀ w : World, (method 516 130 (.agg #[.pointer (some ⟨o, 0, none⟩)]) "Len").run Tryz.prog w = .ok (116, .pointer (some ⟨o, 0, none⟩)) w := fun _ => by kernel_rfl
  have ha : ∀ w : World, (Instr.typeAssert (.iface 130 (.agg #[.pointer (some ⟨o, 0, none⟩)])) 108 140 true).run Tryz.prog w = .ok (.tuple #[.iface 130 (.agg #[.pointer (some ⟨o, 0, none⟩)]), .bool true]) w := fun w => run_typeAssert_hasB Tryz.underlying140 (by kernel_rfl) _ _ w
  clear h
  go_enter Tryz.func37, Tryz.ntmps37
  go_wp2_with fail
  refine mC.mono ?_
  rintro _ w1 ⟨rfl, rfl⟩
  go_wp2_with fail
  refine mF.mono ?_
  rintro _ w1 ⟨rfl, rfl⟩
  go_wp2
  go_ret
  exact ⟨rfl, rfl⟩
theorem cost_ranked {w : World} {b o : Nat} {k : Int} (h : Hol w b 133 (.agg #[.pointer (some ⟨o, 0, none⟩)]))
    (mF : Calls Tryz.prog 306 #[.pointer (some ⟨o, 0, none⟩)] w fun e w' => e = .returned (.int .i64 k) ∧ w' = w) :
    Calls Tryz.prog 16 #[.pointer (some ⟨b, 0, none⟩)] w fun e w' => e = .returned (.int .i64 k) ∧ w' = w := by
  have mC := content_some h
  have hm : ∀ w : World, (method 516 133 (.agg #[.pointer (some ⟨o, 0, none⟩)]) "Cost").run Tryz.prog w = .ok (306, .pointer (some ⟨o, 0, none⟩)) w := fun _ => by kernel_rfl
  clear h
  go_enter Tryz.func16, Tryz.ntmps16
  go_wp2_with fail
  refine mC.mono ?_
  rintro _ w1 ⟨rfl, rfl⟩
  go_wp2_with fail
  refine mF.mono ?_
  rintro _ w1 ⟨rfl, rfl⟩
  go_wp2
  go_ret
  exact ⟨rfl, rfl⟩
theorem empty_ranked {w : World} {b o k : Nat} (h : Hol w b 133 (.agg #[.pointer (some ⟨o, 0, none⟩)]))
    (mF : Calls Tryz.prog 117 #[.pointer (some ⟨o, 0, none⟩)] w fun e w' => e = .returned (.int .i64 (k : Int)) ∧ w' = w) :
    Calls Tryz.prog 37 #[.pointer (some ⟨b, 0, none⟩)] w fun e w' => e = .returned (.bool ((k : Int) == 0)) ∧ w' = w := by
  have mC := content_some h
  have hm : ∀ w : World, (method 516 133 (.agg #[.pointer (some ⟨o, 0, none⟩)]) "Len").run Tryz.prog w = .ok (117, .pointer (some ⟨o, 0, none⟩)) w := fun _ => by kernel_rfl
  have ha : ∀ w : World, (Instr.typeAssert (.iface 133 (.agg #[.pointer (some ⟨o, 0, none⟩)])) 108 140 true).run Tryz.prog w = .ok (.tuple #[.iface 133 (.agg #[.pointer (some ⟨o, 0, none⟩)]), .bool true]) w := fun w => run_typeAssert_hasB Tryz.underlying140 (by kernel_rfl) _ _ w
  clear h
  go_enter Tryz.func37, Tryz.ntmps37
  go_wp2_with fail
  refine mC.mono ?_
  rintro _ w1 ⟨rfl, rfl⟩
  go_wp2_with fail
  refine mF.mono ?_
  rintro _ w1 ⟨rfl, rfl⟩
  go_wp2
  go_ret
  exact ⟨rfl, rfl⟩
theorem plain_text {w : World} {vp : Value} {s : ByteArray} {P : Dt → Prop} (mC : ∀ w', Below w.heap.size w w' → Calls Tryz.prog 59 #[vp] w' fun e w'' => e = .returned (.iface 121 (.string s)) ∧ w'' = w')
    (mP : ∀ w', Below w.heap.size w w' → Calls Tryz.prog 310 #[.string s] w' fun e w'' => (∃ V d', e = .returned V ∧ Pln w'' V d' ∧ P d') ∧ Below w'.heap.size w' w'') :
    Calls Tryz.prog 33 #[vp] w fun e w' => (∃ V d', e = .returned V ∧ Pln w' V d' ∧ P d') ∧ Below w.heap.size w w' := by
  have hm : ∀ w : World, (method 516 121 (.string s) "pantry/value.plain").run Tryz.prog w = .ok (310, .string s) w := fun _ => by kernel_rfl
  obtain ⟨W1, hW1⟩ : ∃ W1, w.alloc (.cells #[.int .i64 0, .string { data := #[] }, .slice none 0 0, .slice none 0 0, .slice none 0 0] 30) = W1 := ⟨_, rfl⟩
  have hb1 : Below w.heap.size w W1 := by rw [← hW1]; exact (Below.refl _ w).alloc (Nat.le_refl _) _
  have hz1 : W1.heap.size = w.heap.size + 1 := by rw [← hW1]; simp
  have g1 : W1.heap[w.heap.size]? = some (.cells #[.int .i64 0, .string { data := #[] }, .slice none 0 0, .slice none 0 0, .slice none 0 0] 30 (0, 0)) := by rw [← hW1]; exact heap_alloc_new _ _
  have mC1 := mC W1 hb1
  have mP1 := mP W1 hb1
  have HW1 := keep hW1
  have HB1 := keep hb1
  have HZ1 := keep hz1
  have G1 := keep g1
  clear mC mP hW1 hb1 hz1 g1
  go_enter Tryz.func33, Tryz.ntmps33
  go_wp2_with fail
  rw [HW1.out]
  refine mC1.mono ?_
  rintro _ w1 ⟨rfl, rfl⟩
  clear mC1 HW1
  go_wp2_with fail
  refine mP1.mono ?_
  rintro _ W2 ⟨⟨V, d, rfl, hP, hd⟩, hb2⟩
  obtain ⟨iv, pv, rv, rfl, a1, a2, a3⟩ := hP
  unfold plV
  have g2 : W2.heap[w.heap.size]? = some (.cells #[.int .i64 0, .string { data := #[] }, .slice none 0 0, .slice none 0 0, .slice none 0 0] 30 (0, 0)) := (hb2.block _ (by have := HZ1.out; omega)).trans G1.out
  have c : ∀ i v, (#[Value.int .i64 0, .string { data := #[] }, .slice none 0 0, .slice none 0 0, .slice none 0 0] : Array Value)[i]? = some v → W2.cell? ⟨w.heap.size, i, none⟩ = some v := fun i v e => by rw [cell_of_row _ _ _ _ _ _ g2]; exact e
  have f : ∀ i, W2.frozen? ⟨w.heap.size, i, none⟩ = false := fun i => by simp [World.frozen?, g2]
  have f0 := f 0
  have f1 := f 1
  have f2 := f 2
  have f3 := f 3
  have f4 := f 4
  have c0 : W2.cell? ⟨w.heap.size, 0, none⟩ = some (.int .i64 0) := c 0 _ rfl
  have c1 : W2.cell? ⟨w.heap.size, 1, none⟩ = some (.string { data := #[] }) := c 1 _ rfl
  have c2 : W2.cell? ⟨w.heap.size, 2, none⟩ = some (.slice none 0 0) := c 2 _ rfl
  have c3 : W2.cell? ⟨w.heap.size, 3, none⟩ = some (.slice none 0 0) := c 3 _ rfl
  have c4 : W2.cell? ⟨w.heap.size, 4, none⟩ = some (.slice none 0 0) := c 4 _ rfl
  have HB2 := keep hb2
  have G2 := keep g2
  have A1 := keep a1
  have A2 := keep a2
  have A3 := keep a3
  have HD := keep hd
  obtain ⟨io, ic, rfl⟩ := own_sl a1
  obtain ⟨po, pc, rfl⟩ := own_sl a2
  obtain ⟨ro, rc, rfl⟩ := own_sl a3
  generalize d.items.length = n1 at *
  generalize d.pairs.length = n2 at *
  generalize d.ranks.length = n3 at *
  clear c f mP1 hb2 g2 a1 a2 a3 hd
  go_wp2
  have HX := over (v0 := .int .i64 d.kind) (v1 := .string d.text) (v2 := .slice io n1 ic) (v3 := .slice po n2 pc) (v4 := .slice ro n3 rc) G2.out
  have HY := over_same W2 w.heap.size (.int .i64 d.kind) (.string d.text) (.slice io n1 ic) (.slice po n2 pc) (.slice ro n3 rc)
  have HZ := over_below (HB1.out.trans (HB2.out.mono HB1.out.size)) (.int .i64 d.kind) (.string d.text) (.slice io n1 ic) (.slice po n2 pc) (.slice ro n3 rc)
  generalize ((((W2.setCell ⟨w.heap.size, 0, none⟩ (.int .i64 d.kind)).setCell ⟨w.heap.size, 1, none⟩ (.string d.text)).setCell ⟨w.heap.size, 2, none⟩ (.slice io n1 ic)).setCell ⟨w.heap.size, 3, none⟩ (.slice po n2 pc)).setCell ⟨w.heap.size, 4, none⟩ (.slice ro n3 rc) = W3 at HX HY HZ
  obtain ⟨k0, k1, k2, k3, k4⟩ := five_cells HX
  refine bodyPost_ret (v := plV d (.slice io n1 ic) (.slice po n2 pc) (.slice ro n3 rc)) (by unfold plV; simp [results, Tryz.results33, go_sem, k0, k1, k2, k3, k4]) rfl ⟨⟨_, d, rfl, ⟨_, _, _, rfl, ?_, ?_, ?_⟩, HD.out⟩, HZ⟩
  · exact kept_but A1.out HY (own_ne A1.out G2.out (by decide))
  · exact kept_but A2.out HY (own_ne A2.out G2.out (by decide))
  · exact kept_but A3.out HY (own_ne A3.out G2.out (by decide))
theorem plain_list {w : World} {vp : Value} {o : Nat} {P : Dt → Prop} (mC : ∀ w', Below w.heap.size w w' → Calls Tryz.prog 59 #[vp] w' fun e w'' => e = .returned (.iface 124 (.agg #[.pointer (some ⟨o, 0, none⟩)])) ∧ w'' = w')
    (mP : ∀ w', Below w.heap.size w w' → Calls Tryz.prog 313 #[.agg #[.pointer (some ⟨o, 0, none⟩)]] w' fun e w'' => (∃ V d', e = .returned V ∧ Pln w'' V d' ∧ P d') ∧ Below w'.heap.size w' w'') :
    Calls Tryz.prog 33 #[vp] w fun e w' => (∃ V d', e = .returned V ∧ Pln w' V d' ∧ P d') ∧ Below w.heap.size w w' := by
  have hm : ∀ w : World, (method 516 124 (.agg #[.pointer (some ⟨o, 0, none⟩)]) "pantry/value.plain").run Tryz.prog w = .ok (313, .agg #[.pointer (some ⟨o, 0, none⟩)]) w := fun _ => by kernel_rfl
  obtain ⟨W1, hW1⟩ : ∃ W1, w.alloc (.cells #[.int .i64 0, .string { data := #[] }, .slice none 0 0, .slice none 0 0, .slice none 0 0] 30) = W1 := ⟨_, rfl⟩
  have hb1 : Below w.heap.size w W1 := by rw [← hW1]; exact (Below.refl _ w).alloc (Nat.le_refl _) _
  have hz1 : W1.heap.size = w.heap.size + 1 := by rw [← hW1]; simp
  have g1 : W1.heap[w.heap.size]? = some (.cells #[.int .i64 0, .string { data := #[] }, .slice none 0 0, .slice none 0 0, .slice none 0 0] 30 (0, 0)) := by rw [← hW1]; exact heap_alloc_new _ _
  have mC1 := mC W1 hb1
  have mP1 := mP W1 hb1
  have HW1 := keep hW1
  have HB1 := keep hb1
  have HZ1 := keep hz1
  have G1 := keep g1
  clear mC mP hW1 hb1 hz1 g1
  go_enter Tryz.func33, Tryz.ntmps33
  go_wp2_with fail
  rw [HW1.out]
  refine mC1.mono ?_
  rintro _ w1 ⟨rfl, rfl⟩
  clear mC1 HW1
  go_wp2_with fail
  refine mP1.mono ?_
  rintro _ W2 ⟨⟨V, d, rfl, hP, hd⟩, hb2⟩
  obtain ⟨iv, pv, rv, rfl, a1, a2, a3⟩ := hP
  unfold plV
  have g2 : W2.heap[w.heap.size]? = some (.cells #[.int .i64 0, .string { data := #[] }, .slice none 0 0, .slice none 0 0, .slice none 0 0] 30 (0, 0)) := (hb2.block _ (by have := HZ1.out; omega)).trans G1.out
  have c : ∀ i v, (#[Value.int .i64 0, .string { data := #[] }, .slice none 0 0, .slice none 0 0, .slice none 0 0] : Array Value)[i]? = some v → W2.cell? ⟨w.heap.size, i, none⟩ = some v := fun i v e => by rw [cell_of_row _ _ _ _ _ _ g2]; exact e
  have f : ∀ i, W2.frozen? ⟨w.heap.size, i, none⟩ = false := fun i => by simp [World.frozen?, g2]
  have f0 := f 0
  have f1 := f 1
  have f2 := f 2
  have f3 := f 3
  have f4 := f 4
  have c0 : W2.cell? ⟨w.heap.size, 0, none⟩ = some (.int .i64 0) := c 0 _ rfl
  have c1 : W2.cell? ⟨w.heap.size, 1, none⟩ = some (.string { data := #[] }) := c 1 _ rfl
  have c2 : W2.cell? ⟨w.heap.size, 2, none⟩ = some (.slice none 0 0) := c 2 _ rfl
  have c3 : W2.cell? ⟨w.heap.size, 3, none⟩ = some (.slice none 0 0) := c 3 _ rfl
  have c4 : W2.cell? ⟨w.heap.size, 4, none⟩ = some (.slice none 0 0) := c 4 _ rfl
  have HB2 := keep hb2
  have G2 := keep g2
  have A1 := keep a1
  have A2 := keep a2
  have A3 := keep a3
  have HD := keep hd
  obtain ⟨io, ic, rfl⟩ := own_sl a1
  obtain ⟨po, pc, rfl⟩ := own_sl a2
  obtain ⟨ro, rc, rfl⟩ := own_sl a3
  generalize d.items.length = n1 at *
  generalize d.pairs.length = n2 at *
  generalize d.ranks.length = n3 at *
  clear c f mP1 hb2 g2 a1 a2 a3 hd
  go_wp2
  have HX := over (v0 := .int .i64 d.kind) (v1 := .string d.text) (v2 := .slice io n1 ic) (v3 := .slice po n2 pc) (v4 := .slice ro n3 rc) G2.out
  have HY := over_same W2 w.heap.size (.int .i64 d.kind) (.string d.text) (.slice io n1 ic) (.slice po n2 pc) (.slice ro n3 rc)
  have HZ := over_below (HB1.out.trans (HB2.out.mono HB1.out.size)) (.int .i64 d.kind) (.string d.text) (.slice io n1 ic) (.slice po n2 pc) (.slice ro n3 rc)
  generalize ((((W2.setCell ⟨w.heap.size, 0, none⟩ (.int .i64 d.kind)).setCell ⟨w.heap.size, 1, none⟩ (.string d.text)).setCell ⟨w.heap.size, 2, none⟩ (.slice io n1 ic)).setCell ⟨w.heap.size, 3, none⟩ (.slice po n2 pc)).setCell ⟨w.heap.size, 4, none⟩ (.slice ro n3 rc) = W3 at HX HY HZ
  obtain ⟨k0, k1, k2, k3, k4⟩ := five_cells HX
  refine bodyPost_ret (v := plV d (.slice io n1 ic) (.slice po n2 pc) (.slice ro n3 rc)) (by unfold plV; simp [results, Tryz.results33, go_sem, k0, k1, k2, k3, k4]) rfl ⟨⟨_, d, rfl, ⟨_, _, _, rfl, ?_, ?_, ?_⟩, HD.out⟩, HZ⟩
  · exact kept_but A1.out HY (own_ne A1.out G2.out (by decide))
  · exact kept_but A2.out HY (own_ne A2.out G2.out (by decide))
  · exact kept_but A3.out HY (own_ne A3.out G2.out (by decide))
theorem plain_fields {w : World} {vp : Value} {o : Nat} {P : Dt → Prop} (mC : ∀ w', Below w.heap.size w w' → Calls Tryz.prog 59 #[vp] w' fun e w'' => e = .returned (.iface 127 (.agg #[.pointer (some ⟨o, 0, none⟩)])) ∧ w'' = w')
    (mP : ∀ w', Below w.heap.size w w' → Calls Tryz.prog 319 #[.agg #[.pointer (some ⟨o, 0, none⟩)]] w' fun e w'' => (∃ V d', e = .returned V ∧ Pln w'' V d' ∧ P d') ∧ Below w'.heap.size w' w'') :
    Calls Tryz.prog 33 #[vp] w fun e w' => (∃ V d', e = .returned V ∧ Pln w' V d' ∧ P d') ∧ Below w.heap.size w w' := by
  have hm : ∀ w : World, (method 516 127 (.agg #[.pointer (some ⟨o, 0, none⟩)]) "pantry/value.plain").run Tryz.prog w = .ok (319, .agg #[.pointer (some ⟨o, 0, none⟩)]) w := fun _ => by kernel_rfl
  obtain ⟨W1, hW1⟩ : ∃ W1, w.alloc (.cells #[.int .i64 0, .string { data := #[] }, .slice none 0 0, .slice none 0 0, .slice none 0 0] 30) = W1 := ⟨_, rfl⟩
  have hb1 : Below w.heap.size w W1 := by rw [← hW1]; exact (Below.refl _ w).alloc (Nat.le_refl _) _
  have hz1 : W1.heap.size = w.heap.size + 1 := by rw [← hW1]; simp
  have g1 : W1.heap[w.heap.size]? = some (.cells #[.int .i64 0, .string { data := #[] }, .slice none 0 0, .slice none 0 0, .slice none 0 0] 30 (0, 0)) := by rw [← hW1]; exact heap_alloc_new _ _
  have mC1 := mC W1 hb1
  have mP1 := mP W1 hb1
  have HW1 := keep hW1
  have HB1 := keep hb1
  have HZ1 := keep hz1
  have G1 := keep g1
  clear mC mP hW1 hb1 hz1 g1
  go_enter Tryz.func33, Tryz.ntmps33
  go_wp2_with fail
  rw [HW1.out]
  refine mC1.mono ?_
  rintro _ w1 ⟨rfl, rfl⟩
  clear mC1 HW1
  go_wp2_with fail
  refine mP1.mono ?_
  rintro _ W2 ⟨⟨V, d, rfl, hP, hd⟩, hb2⟩
  obtain ⟨iv, pv, rv, rfl, a1, a2, a3⟩ := hP
  unfold plV
  have g2 : W2.heap[w.heap.size]? = some (.cells #[.int .i64 0, .string { data := #[] }, .slice none 0 0, .slice none 0 0, .slice none 0 0] 30 (0, 0)) := (hb2.block _ (by have := HZ1.out; omega)).trans G1.out
  have c : ∀ i v, (#[Value.int .i64 0, .string { data := #[] }, .slice none 0 0, .slice none 0 0, .slice none 0 0] : Array Value)[i]? = some v → W2.cell? ⟨w.heap.size, i, none⟩ = some v := fun i v e => by rw [cell_of_row _ _ _ _ _ _ g2]; exact e
  have f : ∀ i, W2.frozen? ⟨w.heap.size, i, none⟩ = false := fun i => by simp [World.frozen?, g2]
  have f0 := f 0
  have f1 := f 1
  have f2 := f 2
  have f3 := f 3
  have f4 := f 4
  have c0 : W2.cell? ⟨w.heap.size, 0, none⟩ = some (.int .i64 0) := c 0 _ rfl
  have c1 : W2.cell? ⟨w.heap.size, 1, none⟩ = some (.string { data := #[] }) := c 1 _ rfl
  have c2 : W2.cell? ⟨w.heap.size, 2, none⟩ = some (.slice none 0 0) := c 2 _ rfl
  have c3 : W2.cell? ⟨w.heap.size, 3, none⟩ = some (.slice none 0 0) := c 3 _ rfl
  have c4 : W2.cell? ⟨w.heap.size, 4, none⟩ = some (.slice none 0 0) := c 4 _ rfl
  have HB2 := keep hb2
  have G2 := keep g2
  have A1 := keep a1
  have A2 := keep a2
  have A3 := keep a3
  have HD := keep hd
  obtain ⟨io, ic, rfl⟩ := own_sl a1
  obtain ⟨po, pc, rfl⟩ := own_sl a2
  obtain ⟨ro, rc, rfl⟩ := own_sl a3
  generalize d.items.length = n1 at *
  generalize d.pairs.length = n2 at *
  generalize d.ranks.length = n3 at *
  clear c f mP1 hb2 g2 a1 a2 a3 hd
  go_wp2
  have HX := over (v0 := .int .i64 d.kind) (v1 := .string d.text) (v2 := .slice io n1 ic) (v3 := .slice po n2 pc) (v4 := .slice ro n3 rc) G2.out
  have HY := over_same W2 w.heap.size (.int .i64 d.kind) (.string d.text) (.slice io n1 ic) (.slice po n2 pc) (.slice ro n3 rc)
  have HZ := over_below (HB1.out.trans (HB2.out.mono HB1.out.size)) (.int .i64 d.kind) (.string d.text) (.slice io n1 ic) (.slice po n2 pc) (.slice ro n3 rc)
  generalize ((((W2.setCell ⟨w.heap.size, 0, none⟩ (.int .i64 d.kind)).setCell ⟨w.heap.size, 1, none⟩ (.string d.text)).setCell ⟨w.heap.size, 2, none⟩ (.slice io n1 ic)).setCell ⟨w.heap.size, 3, none⟩ (.slice po n2 pc)).setCell ⟨w.heap.size, 4, none⟩ (.slice ro n3 rc) = W3 at HX HY HZ
  obtain ⟨k0, k1, k2, k3, k4⟩ := five_cells HX
  refine bodyPost_ret (v := plV d (.slice io n1 ic) (.slice po n2 pc) (.slice ro n3 rc)) (by unfold plV; simp [results, Tryz.results33, go_sem, k0, k1, k2, k3, k4]) rfl ⟨⟨_, d, rfl, ⟨_, _, _, rfl, ?_, ?_, ?_⟩, HD.out⟩, HZ⟩
  · exact kept_but A1.out HY (own_ne A1.out G2.out (by decide))
  · exact kept_but A2.out HY (own_ne A2.out G2.out (by decide))
  · exact kept_but A3.out HY (own_ne A3.out G2.out (by decide))
theorem plain_members {w : World} {vp : Value} {o : Nat} {P : Dt → Prop} (mC : ∀ w', Below w.heap.size w w' → Calls Tryz.prog 59 #[vp] w' fun e w'' => e = .returned (.iface 130 (.agg #[.pointer (some ⟨o, 0, none⟩)])) ∧ w'' = w')
    (mP : ∀ w', Below w.heap.size w w' → Calls Tryz.prog 350 #[.agg #[.pointer (some ⟨o, 0, none⟩)]] w' fun e w'' => (∃ V d', e = .returned V ∧ Pln w'' V d' ∧ P d') ∧ Below w'.heap.size w' w'') :
    Calls Tryz.prog 33 #[vp] w fun e w' => (∃ V d', e = .returned V ∧ Pln w' V d' ∧ P d') ∧ Below w.heap.size w w' := by
  have hm : ∀ w : World, (method 516 130 (.agg #[.pointer (some ⟨o, 0, none⟩)]) "pantry/value.plain").run Tryz.prog w = .ok (350, .agg #[.pointer (some ⟨o, 0, none⟩)]) w := fun _ => by kernel_rfl
  obtain ⟨W1, hW1⟩ : ∃ W1, w.alloc (.cells #[.int .i64 0, .string { data := #[] }, .slice none 0 0, .slice none 0 0, .slice none 0 0] 30) = W1 := ⟨_, rfl⟩
  have hb1 : Below w.heap.size w W1 := by rw [← hW1]; exact (Below.refl _ w).alloc (Nat.le_refl _) _
  have hz1 : W1.heap.size = w.heap.size + 1 := by rw [← hW1]; simp
  have g1 : W1.heap[w.heap.size]? = some (.cells #[.int .i64 0, .string { data := #[] }, .slice none 0 0, .slice none 0 0, .slice none 0 0] 30 (0, 0)) := by rw [← hW1]; exact heap_alloc_new _ _
  have mC1 := mC W1 hb1
  have mP1 := mP W1 hb1
  have HW1 := keep hW1
  have HB1 := keep hb1
  have HZ1 := keep hz1
  have G1 := keep g1
  clear mC mP hW1 hb1 hz1 g1
  go_enter Tryz.func33, Tryz.ntmps33
  go_wp2_with fail
  rw [HW1.out]
  refine mC1.mono ?_
  rintro _ w1 ⟨rfl, rfl⟩
  clear mC1 HW1
  go_wp2_with fail
  refine mP1.mono ?_
  rintro _ W2 ⟨⟨V, d, rfl, hP, hd⟩, hb2⟩
  obtain ⟨iv, pv, rv, rfl, a1, a2, a3⟩ := hP
  unfold plV
  have g2 : W2.heap[w.heap.size]? = some (.cells #[.int .i64 0, .string { data := #[] }, .slice none 0 0, .slice none 0 0, .slice none 0 0] 30 (0, 0)) := (hb2.block _ (by have := HZ1.out; omega)).trans G1.out
  have c : ∀ i v, (#[Value.int .i64 0, .string { data := #[] }, .slice none 0 0, .slice none 0 0, .slice none 0 0] : Array Value)[i]? = some v → W2.cell? ⟨w.heap.size, i, none⟩ = some v := fun i v e => by rw [cell_of_row _ _ _ _ _ _ g2]; exact e
  have f : ∀ i, W2.frozen? ⟨w.heap.size, i, none⟩ = false := fun i => by simp [World.frozen?, g2]
  have f0 := f 0
  have f1 := f 1
  have f2 := f 2
  have f3 := f 3
  have f4 := f 4
  have c0 : W2.cell? ⟨w.heap.size, 0, none⟩ = some (.int .i64 0) := c 0 _ rfl
  have c1 : W2.cell? ⟨w.heap.size, 1, none⟩ = some (.string { data := #[] }) := c 1 _ rfl
  have c2 : W2.cell? ⟨w.heap.size, 2, none⟩ = some (.slice none 0 0) := c 2 _ rfl
  have c3 : W2.cell? ⟨w.heap.size, 3, none⟩ = some (.slice none 0 0) := c 3 _ rfl
  have c4 : W2.cell? ⟨w.heap.size, 4, none⟩ = some (.slice none 0 0) := c 4 _ rfl
  have HB2 := keep hb2
  have G2 := keep g2
  have A1 := keep a1
  have A2 := keep a2
  have A3 := keep a3
  have HD := keep hd
  obtain ⟨io, ic, rfl⟩ := own_sl a1
  obtain ⟨po, pc, rfl⟩ := own_sl a2
  obtain ⟨ro, rc, rfl⟩ := own_sl a3
  generalize d.items.length = n1 at *
  generalize d.pairs.length = n2 at *
  generalize d.ranks.length = n3 at *
  clear c f mP1 hb2 g2 a1 a2 a3 hd
  go_wp2
  have HX := over (v0 := .int .i64 d.kind) (v1 := .string d.text) (v2 := .slice io n1 ic) (v3 := .slice po n2 pc) (v4 := .slice ro n3 rc) G2.out
  have HY := over_same W2 w.heap.size (.int .i64 d.kind) (.string d.text) (.slice io n1 ic) (.slice po n2 pc) (.slice ro n3 rc)
  have HZ := over_below (HB1.out.trans (HB2.out.mono HB1.out.size)) (.int .i64 d.kind) (.string d.text) (.slice io n1 ic) (.slice po n2 pc) (.slice ro n3 rc)
  generalize ((((W2.setCell ⟨w.heap.size, 0, none⟩ (.int .i64 d.kind)).setCell ⟨w.heap.size, 1, none⟩ (.string d.text)).setCell ⟨w.heap.size, 2, none⟩ (.slice io n1 ic)).setCell ⟨w.heap.size, 3, none⟩ (.slice po n2 pc)).setCell ⟨w.heap.size, 4, none⟩ (.slice ro n3 rc) = W3 at HX HY HZ
  obtain ⟨k0, k1, k2, k3, k4⟩ := five_cells HX
  refine bodyPost_ret (v := plV d (.slice io n1 ic) (.slice po n2 pc) (.slice ro n3 rc)) (by unfold plV; simp [results, Tryz.results33, go_sem, k0, k1, k2, k3, k4]) rfl ⟨⟨_, d, rfl, ⟨_, _, _, rfl, ?_, ?_, ?_⟩, HD.out⟩, HZ⟩
  · exact kept_but A1.out HY (own_ne A1.out G2.out (by decide))
  · exact kept_but A2.out HY (own_ne A2.out G2.out (by decide))
  · exact kept_but A3.out HY (own_ne A3.out G2.out (by decide))
theorem plain_ranked {w : World} {vp : Value} {o : Nat} {P : Dt → Prop} (mC : ∀ w', Below w.heap.size w w' → Calls Tryz.prog 59 #[vp] w' fun e w'' => e = .returned (.iface 133 (.agg #[.pointer (some ⟨o, 0, none⟩)])) ∧ w'' = w')
    (mP : ∀ w', Below w.heap.size w w' → Calls Tryz.prog 377 #[.agg #[.pointer (some ⟨o, 0, none⟩)]] w' fun e w'' => (∃ V d', e = .returned V ∧ Pln w'' V d' ∧ P d') ∧ Below w'.heap.size w' w'') :
    Calls Tryz.prog 33 #[vp] w fun e w' => (∃ V d', e = .returned V ∧ Pln w' V d' ∧ P d') ∧ Below w.heap.size w w' := by
  have hm : ∀ w : World, (method 516 133 (.agg #[.pointer (some ⟨o, 0, none⟩)]) "pantry/value.plain").run Tryz.prog w = .ok (377, .agg #[.pointer (some ⟨o, 0, none⟩)]) w := fun _ => by kernel_rfl
  obtain ⟨W1, hW1⟩ : ∃ W1, w.alloc (.cells #[.int .i64 0, .string { data := #[] }, .slice none 0 0, .slice none 0 0, .slice none 0 0] 30) = W1 := ⟨_, rfl⟩
  have hb1 : Below w.heap.size w W1 := by rw [← hW1]; exact (Below.refl _ w).alloc (Nat.le_refl _) _
  have hz1 : W1.heap.size = w.heap.size + 1 := by rw [← hW1]; simp
  have g1 : W1.heap[w.heap.size]? = some (.cells #[.int .i64 0, .string { data := #[] }, .slice none 0 0, .slice none 0 0, .slice none 0 0] 30 (0, 0)) := by rw [← hW1]; exact heap_alloc_new _ _
  have mC1 := mC W1 hb1
  have mP1 := mP W1 hb1
  have HW1 := keep hW1
  have HB1 := keep hb1
  have HZ1 := keep hz1
  have G1 := keep g1
  clear mC mP hW1 hb1 hz1 g1
  go_enter Tryz.func33, Tryz.ntmps33
  go_wp2_with fail
  rw [HW1.out]
  refine mC1.mono ?_
  rintro _ w1 ⟨rfl, rfl⟩
  clear mC1 HW1
  go_wp2_with fail
  refine mP1.mono ?_
  rintro _ W2 ⟨⟨V, d, rfl, hP, hd⟩, hb2⟩
  obtain ⟨iv, pv, rv, rfl, a1, a2, a3⟩ := hP
  unfold plV
  have g2 : W2.heap[w.heap.size]? = some (.cells #[.int .i64 0, .string { data := #[] }, .slice none 0 0, .slice none 0 0, .slice none 0 0] 30 (0, 0)) := (hb2.block _ (by have := HZ1.out; omega)).trans G1.out
  have c : ∀ i v, (#[Value.int .i64 0, .string { data := #[] }, .slice none 0 0, .slice none 0 0, .slice none 0 0] : Array Value)[i]? = some v → W2.cell? ⟨w.heap.size, i, none⟩ = some v := fun i v e => by rw [cell_of_row _ _ _ _ _ _ g2]; exact e
  have f : ∀ i, W2.frozen? ⟨w.heap.size, i, none⟩ = false := fun i => by simp [World.frozen?, g2]
  have f0 := f 0
  have f1 := f 1
  have f2 := f 2
  have f3 := f 3
  have f4 := f 4
  have c0 : W2.cell? ⟨w.heap.size, 0, none⟩ = some (.int .i64 0) := c 0 _ rfl
  have c1 : W2.cell? ⟨w.heap.size, 1, none⟩ = some (.string { data := #[] }) := c 1 _ rfl
  have c2 : W2.cell? ⟨w.heap.size, 2, none⟩ = some (.slice none 0 0) := c 2 _ rfl
  have c3 : W2.cell? ⟨w.heap.size, 3, none⟩ = some (.slice none 0 0) := c 3 _ rfl
  have c4 : W2.cell? ⟨w.heap.size, 4, none⟩ = some (.slice none 0 0) := c 4 _ rfl
  have HB2 := keep hb2
  have G2 := keep g2
  have A1 := keep a1
  have A2 := keep a2
  have A3 := keep a3
  have HD := keep hd
  obtain ⟨io, ic, rfl⟩ := own_sl a1
  obtain ⟨po, pc, rfl⟩ := own_sl a2
  obtain ⟨ro, rc, rfl⟩ := own_sl a3
  generalize d.items.length = n1 at *
  generalize d.pairs.length = n2 at *
  generalize d.ranks.length = n3 at *
  clear c f mP1 hb2 g2 a1 a2 a3 hd
  go_wp2
  have HX := over (v0 := .int .i64 d.kind) (v1 := .string d.text) (v2 := .slice io n1 ic) (v3 := .slice po n2 pc) (v4 := .slice ro n3 rc) G2.out
  have HY := over_same W2 w.heap.size (.int .i64 d.kind) (.string d.text) (.slice io n1 ic) (.slice po n2 pc) (.slice ro n3 rc)
  have HZ := over_below (HB1.out.trans (HB2.out.mono HB1.out.size)) (.int .i64 d.kind) (.string d.text) (.slice io n1 ic) (.slice po n2 pc) (.slice ro n3 rc)
  generalize ((((W2.setCell ⟨w.heap.size, 0, none⟩ (.int .i64 d.kind)).setCell ⟨w.heap.size, 1, none⟩ (.string d.text)).setCell ⟨w.heap.size, 2, none⟩ (.slice io n1 ic)).setCell ⟨w.heap.size, 3, none⟩ (.slice po n2 pc)).setCell ⟨w.heap.size, 4, none⟩ (.slice ro n3 rc) = W3 at HX HY HZ
  obtain ⟨k0, k1, k2, k3, k4⟩ := five_cells HX
  refine bodyPost_ret (v := plV d (.slice io n1 ic) (.slice po n2 pc) (.slice ro n3 rc)) (by unfold plV; simp [results, Tryz.results33, go_sem, k0, k1, k2, k3, k4]) rfl ⟨⟨_, d, rfl, ⟨_, _, _, rfl, ?_, ?_, ?_⟩, HD.out⟩, HZ⟩
  · exact kept_but A1.out HY (own_ne A1.out G2.out (by decide))
  · exact kept_but A2.out HY (own_ne A2.out G2.out (by decide))
  · exact kept_but A3.out HY (own_ne A3.out G2.out (by decide))
end Vl
end Go.Proofs.YtmgeaanbgjbkcaaGreat

namespace Go.Proofs.YtmgeaanbgjbkcaaGreat
open Go.RowKit Go.Shelf
set_option linter.unusedVariables false
set_option linter.unusedSimpArgs false
set_option maxRecDepth 100000
namespace Vl
theorem text_any (w : World) (s : ByteArray) : Calls Tryz.prog 21 #[.string s] w fun e w' => e = .returned (.pointer (some ⟨w.heap.size, 0, none⟩)) ∧ Hol w' w.heap.size 121 (.string s) ∧ Below w.heap.size w w' := by
  go_enter Tryz.func21, Tryz.ntmps21
  go_wp2
  go_ret
  exact ⟨rfl, heap_alloc_new _ _, (Below.refl _ _).alloc (Nat.le_refl _) _⟩
end Vl
end Go.Proofs.YtmgeaanbgjbkcaaGreat

namespace Go.Proofs.YtmgeaanbgjbkcaaGreat
open Go.RowKit Go.Shelf
set_option linter.unusedVariables false
set_option linter.unusedSimpArgs false
set_option maxRecDepth 100000
namespace Vl
theorem tx_empty (t : ByteArray) : t.toList.isEmpty = true ↔ t.size = 0 := by
  rw [List.isEmpty_iff, ← List.length_eq_zero_iff]
  rw [ByteArray.toList_eq]
  rfl
theorem fit_iff {kd : Int} {tx : ByteArray} {is : List ByteArray} {ps : List (ByteArray × ByteArray)} {rs : List (ByteArray × Nat)} {n1 n2 n3 : Nat} (h1 : is.length = n1) (h2 : ps.length = n2) (h3 : rs.length = n3) :
    Fit ⟨kd, tx, is, ps, rs⟩ ↔ (kd = 1 ∧ n1 = 0 ∧ n2 = 0 ∧ n3 = 0) ∨ ((kd = 2 ∨ kd = 4) ∧ tx.size = 0 ∧ n2 = 0 ∧ n3 = 0) ∨ (kd = 3 ∧ tx.size = 0 ∧ n1 = 0 ∧ n3 = 0) ∨ (kd = 5 ∧ tx.size = 0 ∧ n1 = 0 ∧ n2 = 0) := by
  unfold Fit
  rw [← h1, ← h2, ← h3, List.length_eq_zero_iff, List.length_eq_zero_iff, List.length_eq_zero_iff]
def Str (d : Dt) (r : Ending) : Prop := ∃ q : Bool, r = .returned (.bool q) ∧ (q = true ↔ ¬ Fit d)
theorem stray_any (w : World) (V : Value) (d : Dt) (h : Pln w V d) :
    Calls Tryz.prog 93 #[V] w fun r w' => Str d r ∧ Below w.heap.size w w' := by
  obtain ⟨iv, pv, rv, rfl, a1, a2, a3⟩ := h
  obtain ⟨io, ic, rfl⟩ := own_sl a1
  obtain ⟨po, pc, rfl⟩ := own_sl a2
  obtain ⟨ro, rc, rfl⟩ := own_sl a3
  have hm1 := own_max a1
  have hm2 := own_max a2
  have hm3 := own_max a3
  unfold maxLen at hm1 hm2 hm3
  obtain ⟨kd, tx, is, ps, rs⟩ := d
  unfold plV
  dsimp only at *
  obtain ⟨n1, h1⟩ : ∃ n, is.length = n := ⟨_, rfl⟩
  obtain ⟨n2, h2⟩ : ∃ n, ps.length = n := ⟨_, rfl⟩
  obtain ⟨n3, h3⟩ : ∃ n, rs.length = n := ⟨_, rfl⟩
  rw [h1] at hm1
  rw [h2] at hm2
  rw [h3] at hm3
  rw [h1, h2, h3]
  have H1 := keep h1
  have H2 := keep h2
  have H3 := keep h3
  obtain ⟨W1, hW1⟩ : ∃ W1, w.alloc (.cells #[.int .i64 kd, .string tx, .slice io n1 ic, .slice po n2 pc, .slice ro n3 rc] 30) = W1 := ⟨_, rfl⟩
  have HB : Kept (Below w.heap.size w W1) := by rw [← hW1]; exact (Below.refl _ w).alloc (Nat.le_refl _) _
  have HW := keep hW1
  clear a1 a2 a3 h1 h2 h3 hW1
  rcases Decidable.em (tx.size = 0) with ht | ht
  · have hte : tx.toList.isEmpty = true := (tx_empty tx).2 ht
    have HT := keep ht
    clear ht
    by_cases hk1 : kd = 1
    · subst hk1
      have hto := HT.out
      clear HT
      have HT := keep hto
      clear hto
      go_enter Tryz.func93, Tryz.ntmps93
      go_wp2
      all_goals
        go_ret
        refine ⟨⟨_, rfl, ?_⟩, by first | exact (Below.refl _ w).alloc (Nat.le_refl _) _ | exact HB.out⟩
        rw [fit_iff H1.out H2.out H3.out]
        have hto := HT.out
        first | omega | (simp only [decide_eq_true_eq]; omega) | (simp [*]; done) | (simp; omega) | (simp [*]; omega)
    by_cases hk2 : kd = 2
    · subst hk2
      have hto := HT.out
      clear HT
      have HT := keep hto
      clear hto
      go_enter Tryz.func93, Tryz.ntmps93
      go_wp2
      all_goals
        go_ret
        refine ⟨⟨_, rfl, ?_⟩, by first | exact (Below.refl _ w).alloc (Nat.le_refl _) _ | exact HB.out⟩
        rw [fit_iff H1.out H2.out H3.out]
        have hto := HT.out
        first | omega | (simp only [decide_eq_true_eq]; omega) | (simp [*]; done) | (simp; omega) | (simp [*]; omega)
    by_cases hk3 : kd = 3
    · subst hk3
      have hto := HT.out
      clear HT
      have HT := keep hto
      clear hto
      go_enter Tryz.func93, Tryz.ntmps93
      go_wp2
      all_goals
        go_ret
        refine ⟨⟨_, rfl, ?_⟩, by first | exact (Below.refl _ w).alloc (Nat.le_refl _) _ | exact HB.out⟩
        rw [fit_iff H1.out H2.out H3.out]
        have hto := HT.out
        first | omega | (simp only [decide_eq_true_eq]; omega) | (simp [*]; done) | (simp; omega) | (simp [*]; omega)
    by_cases hk4 : kd = 4
    · subst hk4
      have hto := HT.out
      clear HT
      have HT := keep hto
      clear hto
      go_enter Tryz.func93, Tryz.ntmps93
      go_wp2
      all_goals
        go_ret
        refine ⟨⟨_, rfl, ?_⟩, by first | exact (Below.refl _ w).alloc (Nat.le_refl _) _ | exact HB.out⟩
        rw [fit_iff H1.out H2.out H3.out]
        have hto := HT.out
        first | omega | (simp only [decide_eq_true_eq]; omega) | (simp [*]; done) | (simp; omega) | (simp [*]; omega)
    by_cases hk5 : kd = 5
    · subst hk5
      have hto := HT.out
      clear HT
      have HT := keep hto
      clear hto
      go_enter Tryz.func93, Tryz.ntmps93
      go_wp2
      all_goals
        go_ret
        refine ⟨⟨_, rfl, ?_⟩, by first | exact (Below.refl _ w).alloc (Nat.le_refl _) _ | exact HB.out⟩
        rw [fit_iff H1.out H2.out H3.out]
        have hto := HT.out
        first | omega | (simp only [decide_eq_true_eq]; omega) | (simp [*]; done) | (simp; omega) | (simp [*]; omega)
    go_enter Tryz.func93, Tryz.ntmps93
    go_wp2
    all_goals
      go_ret
      refine ⟨⟨_, rfl, ?_⟩, by first | exact (Below.refl _ w).alloc (Nat.le_refl _) _ | exact HB.out⟩
      rw [fit_iff H1.out H2.out H3.out]
      have hto := HT.out
      first | omega | (simp only [decide_eq_true_eq]; omega) | (simp [*]; done) | (simp; omega) | (simp [*]; omega)
  · have hte : tx.toList.isEmpty = false := by
      cases e : tx.toList.isEmpty
      · rfl
      · exact absurd ((tx_empty tx).1 e) ht
    have HT := keep ht
    clear ht
    by_cases hk1 : kd = 1
    · subst hk1
      have hto := HT.out
      clear HT
      have HT := keep hto
      clear hto
      go_enter Tryz.func93, Tryz.ntmps93
      go_wp2
      all_goals
        go_ret
        refine ⟨⟨_, rfl, ?_⟩, by first | exact (Below.refl _ w).alloc (Nat.le_refl _) _ | exact HB.out⟩
        rw [fit_iff H1.out H2.out H3.out]
        have hto := HT.out
        first | omega | (simp only [decide_eq_true_eq]; omega) | (simp [*]; done) | (simp; omega) | (simp [*]; omega)
    by_cases hk2 : kd = 2
    · subst hk2
      have hto := HT.out
      clear HT
      have HT := keep hto
      clear hto
      go_enter Tryz.func93, Tryz.ntmps93
      go_wp2
      all_goals
        go_ret
        refine ⟨⟨_, rfl, ?_⟩, by first | exact (Below.refl _ w).alloc (Nat.le_refl _) _ | exact HB.out⟩
        rw [fit_iff H1.out H2.out H3.out]
        have hto := HT.out
        first | omega | (simp only [decide_eq_true_eq]; omega) | (simp [*]; done) | (simp; omega) | (simp [*]; omega)
    by_cases hk3 : kd = 3
    · subst hk3
      have hto := HT.out
      clear HT
      have HT := keep hto
      clear hto
      go_enter Tryz.func93, Tryz.ntmps93
      go_wp2
      all_goals
        go_ret
        refine ⟨⟨_, rfl, ?_⟩, by first | exact (Below.refl _ w).alloc (Nat.le_refl _) _ | exact HB.out⟩
        rw [fit_iff H1.out H2.out H3.out]
        have hto := HT.out
        first | omega | (simp only [decide_eq_true_eq]; omega) | (simp [*]; done) | (simp; omega) | (simp [*]; omega)
    by_cases hk4 : kd = 4
    · subst hk4
      have hto := HT.out
      clear HT
      have HT := keep hto
      clear hto
      go_enter Tryz.func93, Tryz.ntmps93
      go_wp2
      all_goals
        go_ret
        refine ⟨⟨_, rfl, ?_⟩, by first | exact (Below.refl _ w).alloc (Nat.le_refl _) _ | exact HB.out⟩
        rw [fit_iff H1.out H2.out H3.out]
        have hto := HT.out
        first | omega | (simp only [decide_eq_true_eq]; omega) | (simp [*]; done) | (simp; omega) | (simp [*]; omega)
    by_cases hk5 : kd = 5
    · subst hk5
      have hto := HT.out
      clear HT
      have HT := keep hto
      clear hto
      go_enter Tryz.func93, Tryz.ntmps93
      go_wp2
      all_goals
        go_ret
        refine ⟨⟨_, rfl, ?_⟩, by first | exact (Below.refl _ w).alloc (Nat.le_refl _) _ | exact HB.out⟩
        rw [fit_iff H1.out H2.out H3.out]
        have hto := HT.out
        first | omega | (simp only [decide_eq_true_eq]; omega) | (simp [*]; done) | (simp; omega) | (simp [*]; omega)
    go_enter Tryz.func93, Tryz.ntmps93
    go_wp2
    all_goals
      go_ret
      refine ⟨⟨_, rfl, ?_⟩, by first | exact (Below.refl _ w).alloc (Nat.le_refl _) _ | exact HB.out⟩
      rw [fit_iff H1.out H2.out H3.out]
      have hto := HT.out
      first | omega | (simp only [decide_eq_true_eq]; omega) | (simp [*]; done) | (simp; omega) | (simp [*]; omega)
end Vl
end Go.Proofs.YtmgeaanbgjbkcaaGreat

namespace Go.Proofs.YtmgeaanbgjbkcaaGreat
open Go.RowKit Go.Shelf
set_option linter.unusedVariables false
set_option linter.unusedSimpArgs false
set_option maxRecDepth 100000
namespace Vl
def Sme {α : Type} (p : α → Bool) (l : List α) : Prop := ∃ x ∈ l, p x = true
def lng (s : ByteArray) : Bool := decide ((1048576 : Int) < (s.size : Int))
theorem lng_iff (s : ByteArray) : lng s = true ↔ 1048576 < s.size := by unfold lng; rw [decide_eq_true_eq]; omega
def lngP (e : ByteArray × ByteArray) : Bool := lng e.1 || lng e.2
def lngM (e : ByteArray × Nat) : Bool := lng e.1
def nanM (e : ByteArray × Nat) : Bool := isNan e.2
theorem longtext_any (s : ByteArray) (hs : s.size ≤ maxLen) (w : World) : Calls Tryz.prog 164 #[.string s] w fun e w' => e = .returned (.bool (lng s)) ∧ Below w.heap.size w w' := by
  unfold maxLen at hs
  go_enter Tryz.func164, Tryz.ntmps164
  go_wp2
  go_ret
  exact ⟨rfl, Below.refl _ _⟩
theorem longpair_any (e : ByteArray × ByteArray) (h1 : e.1.size ≤ maxLen) (h2 : e.2.size ≤ maxLen) (w : World) : Calls Tryz.prog 167 #[.agg #[.string e.1, .string e.2]] w fun r w' => r = .returned (.bool (lngP e)) ∧ Below w.heap.size w w' := by
  obtain ⟨e1, e2⟩ := e
  dsimp only at h1 h2 ⊢
  have m1 := longtext_any e1 h1
  have m2 := longtext_any e2 h2
  unfold lngP
  dsimp only
  have hb0 : Below w.heap.size w (w.alloc (.cells #[.string e1, .string e2] 70)) := (Below.refl _ w).alloc (Nat.le_refl _) _
  clear h1 h2
  cases hl : lng e1
  · rw [hl] at m1
    go_enter Tryz.func167, Tryz.ntmps167
    go_wp2_with fail
    refine (m1 _).mono ?_
    rintro _ w1 ⟨rfl, hb1⟩
    have c1 : w1.cell? ⟨w.heap.size, 1, none⟩ = some (.string e2) := by
      rw [hb1.cell (p := ⟨w.heap.size, 1, none⟩) (by simp)]
      rw [cell_of_row _ _ _ _ _ _ (heap_alloc_new _ _)]; rfl
    replace hb1 := hb0.trans (hb1.mono hb0.size)
    clear hb0
    go_wp2_with fail
    refine (m2 _).mono ?_
    rintro _ w2 ⟨rfl, hb2⟩
    replace hb2 := hb1.trans (hb2.mono hb1.size)
    clear hb1 c1
    go_wp2
    go_ret
    exact ⟨by simp, hb2⟩
  · rw [hl] at m1
    go_enter Tryz.func167, Tryz.ntmps167
    go_wp2_with fail
    refine (m1 _).mono ?_
    rintro _ w1 ⟨rfl, hb1⟩
    replace hb1 := hb0.trans (hb1.mono hb0.size)
    clear hb0
    go_wp2
    go_ret
    exact ⟨by simp, hb1⟩
theorem longrank_any (e : ByteArray × Nat) (h1 : e.1.size ≤ maxLen) (w : World) : Calls Tryz.prog 168 #[.agg #[.string e.1, .float .f64 e.2]] w fun r w' => r = .returned (.bool (lngM e)) ∧ Below w.heap.size w w' := by
  obtain ⟨e1, e2⟩ := e
  dsimp only at h1 ⊢
  have m1 := longtext_any e1 h1
  unfold lngM
  have hb0 : Below w.heap.size w (w.alloc (.cells #[.string e1, .float .f64 e2] 73)) := (Below.refl _ w).alloc (Nat.le_refl _) _
  clear h1
  go_enter Tryz.func168, Tryz.ntmps168
  go_wp2_with fail
  refine (m1 _).mono ?_
  rintro _ w1 ⟨rfl, hb1⟩
  replace hb1 := hb0.trans (hb1.mono hb0.size)
  clear hb0
  go_wp2
  go_ret
  exact ⟨rfl, hb1⟩
theorem noscore_any (e : ByteArray × Nat) (w : World) : Calls Tryz.prog 96 #[.agg #[.string e.1, .float .f64 e.2]] w fun r w' => r = .returned (.bool (nanM e)) ∧ Below w.heap.size w w' := by
  obtain ⟨e1, e2⟩ := e
  unfold nanM
  have hb0 : Below w.heap.size w (w.alloc (.cells #[.string e1, .float .f64 e2] 73)) := (Below.refl _ w).alloc (Nat.le_refl _) _
  go_enter Tryz.func96, Tryz.ntmps96
  go_wp2_with fail
  refine (isnan_any _ _).mono ?_
  rintro _ w1 ⟨rfl, rfl⟩
  go_wp2
  go_ret
  exact ⟨rfl, hb0⟩
theorem index_texts (w : World) (v : Value) (l : List (ByteArray)) (hR : It w v l) (m : ∀ x ∈ l, ∀ w' : World, Calls Tryz.prog 164 #[.string x] w' fun r w'' => r = .returned (.bool (lng x)) ∧ Below w'.heap.size w' w'') :
    Calls Tryz.prog 222 #[v, .func (.func 164) #[] #[]] w fun r w' => (∃ z : Int, r = .returned (.int .i64 z) ∧ (0 ≤ z ↔ Sme lng l)) ∧ Below w.heap.size w w' := by
  have hmx := own_max hR
  unfold maxLen at hmx
  obtain ⟨ao, ca, rfl⟩ := own_sl hR
  obtain ⟨L, hL⟩ : ∃ L, l.length = L := ⟨_, rfl⟩
  have HM := keep m
  have HR := keep hR
  have HL := keep hL
  rw [hL] at hmx HR ⊢
  clear hR hL m
  go_enter Tryz.func222, Tryz.ntmps222
  go_wp2
  go_loopw [8] (fun i wr => ∃ k : Nat, k ≤ L ∧ i = .int .i64 k ∧ Kept (∀ j x, j < k → l[j]? = some x → lng x = false) ∧ Kept (Below w.heap.size w wr)) (fun i _ => L - (intOf i).toNat)
  case atStart => exact ⟨0, Nat.zero_le _, rfl, fun j x h => absurd h (Nat.not_lt_zero _), Below.refl _ _⟩
  case round =>
    obtain ⟨k, hk, rfl, KF, KB⟩ := hrel
    by_cases hlt : k < L
    · have hz : (k : Int) < (L : Int) := by omega
      have hz0 : (0 : Int) ≤ (k : Int) := by omega
      have KW : IntKind.i64.wrap ((k : Int) + 1) = ((k + 1 : Nat) : Int) := by rw [IntKind.wrap_i64]; omega
      obtain ⟨x, hx⟩ : ∃ x, l[k]? = some x := ⟨_, List.getElem?_eq_getElem (by rw [HL.out]; exact hlt)⟩
      have hmem := List.mem_of_getElem? hx
      have mF := HM.out x hmem wr
      have HX := keep hx
      have HMEM := keep hmem
      obtain ⟨g, rfl, hg⟩ : ∃ g, ao = some ⟨g, 0, none⟩ ∧ g < w.heap.size := by
        have h1 := HR.out
        unfold It at h1
        rw [HL.out] at h1
        exact own_some h1 (by omega)
      have c1 : wr.cell? ⟨g, k, none⟩ = some (.string x) := (KB.out.cell (p := ⟨g, k, none⟩) hg).trans (It.at HR.out hx)
      clear hx hmem
      cases hp : lng x
      · rw [hp] at mF
        have HP := keep hp
        clear hp
        go_wp2_with fail
        refine mF.mono ?_
        rintro _ w1 ⟨rfl, hb1⟩
        have KB1 := keep (KB.out.trans (hb1.mono KB.out.size))
        clear hb1 mF c1
        go_wp2
        go_roundw
        case measure => simp [intOf]; omega
        case rel =>
          refine ⟨k + 1, by omega, by go_num, fun j y hj hy => ?_, KB1.out⟩
          rcases Nat.lt_succ_iff_lt_or_eq.1 hj with h | h
          · exact KF.out j y h hy
          · subst h
            rw [HX.out] at hy
            cases hy
            exact HP.out
      · rw [hp] at mF
        have HP := keep hp
        clear hp
        go_wp2_with fail
        refine mF.mono ?_
        rintro _ w1 ⟨rfl, hb1⟩
        have KB1 := keep (KB.out.trans (hb1.mono KB.out.size))
        clear hb1 mF c1
        go_wp2
        go_ret
        exact ⟨⟨_, rfl, fun _ => ⟨_, HMEM.out, HP.out⟩, fun _ => hz0⟩, KB1.out⟩
    · have hz : ¬ (k : Int) < (L : Int) := by omega
      go_wp2
      go_ret
      refine ⟨⟨_, rfl, fun h => absurd h (by decide), ?_⟩, KB.out⟩
      rintro ⟨x, hx, hp⟩
      obtain ⟨j, hj, e⟩ := List.mem_iff_getElem.1 hx
      have := KF.out j x (by have := HL.out; omega) (by rw [List.getElem?_eq_getElem hj, e])
      rw [hp] at this; cases this
theorem some_texts (w : World) (v : Value) (l : List (ByteArray)) (hR : It w v l) (m : ∀ x ∈ l, ∀ w' : World, Calls Tryz.prog 164 #[.string x] w' fun r w'' => r = .returned (.bool (lng x)) ∧ Below w'.heap.size w' w'') :
    Calls Tryz.prog 165 #[v, .func (.func 164) #[] #[]] w fun r w' => (∃ q, r = .returned (.bool q) ∧ (q = true ↔ Sme lng l)) ∧ Below w.heap.size w w' := by
  have mI := index_texts w v l hR m
  clear m hR
  go_enter Tryz.func165, Tryz.ntmps165
  go_wp2_with fail
  refine mI.mono ?_
  rintro _ w1 ⟨⟨z, rfl, hz⟩, hb⟩
  have HZ := keep hz
  clear hz mI
  go_wp2
  go_ret
  exact ⟨⟨_, rfl, by rw [decide_eq_true_eq]; exact HZ.out⟩, hb⟩
theorem index_pairs (w : World) (v : Value) (l : List (ByteArray × ByteArray)) (hR : Pr w v l) (m : ∀ x ∈ l, ∀ w' : World, Calls Tryz.prog 167 #[.agg #[.string x.1, .string x.2]] w' fun r w'' => r = .returned (.bool (lngP x)) ∧ Below w'.heap.size w' w'') :
    Calls Tryz.prog 223 #[v, .func (.func 167) #[] #[]] w fun r w' => (∃ z : Int, r = .returned (.int .i64 z) ∧ (0 ≤ z ↔ Sme lngP l)) ∧ Below w.heap.size w w' := by
  have hmx := own_max hR
  unfold maxLen at hmx
  obtain ⟨ao, ca, rfl⟩ := own_sl hR
  obtain ⟨L, hL⟩ : ∃ L, l.length = L := ⟨_, rfl⟩
  have HM := keep m
  have HR := keep hR
  have HL := keep hL
  rw [hL] at hmx HR ⊢
  clear hR hL m
  go_enter Tryz.func223, Tryz.ntmps223
  go_wp2
  go_loopw [8] (fun i wr => ∃ k : Nat, k ≤ L ∧ i = .int .i64 k ∧ Kept (∀ j x, j < k → l[j]? = some x → lngP x = false) ∧ Kept (Below w.heap.size w wr)) (fun i _ => L - (intOf i).toNat)
  case atStart => exact ⟨0, Nat.zero_le _, rfl, fun j x h => absurd h (Nat.not_lt_zero _), Below.refl _ _⟩
  case round =>
    obtain ⟨k, hk, rfl, KF, KB⟩ := hrel
    by_cases hlt : k < L
    · have hz : (k : Int) < (L : Int) := by omega
      have hz0 : (0 : Int) ≤ (k : Int) := by omega
      have KW : IntKind.i64.wrap ((k : Int) + 1) = ((k + 1 : Nat) : Int) := by rw [IntKind.wrap_i64]; omega
      obtain ⟨x, hx⟩ : ∃ x, l[k]? = some x := ⟨_, List.getElem?_eq_getElem (by rw [HL.out]; exact hlt)⟩
      have hmem := List.mem_of_getElem? hx
      have mF := HM.out x hmem wr
      have HX := keep hx
      have HMEM := keep hmem
      obtain ⟨g, rfl, hg⟩ : ∃ g, ao = some ⟨g, 0, none⟩ ∧ g < w.heap.size := by
        have h1 := HR.out
        unfold Pr at h1
        rw [HL.out] at h1
        exact own_some h1 (by omega)
      obtain ⟨a1, a2⟩ := Pr.at HR.out hx
      obtain ⟨ok, hok⟩ : ∃ ok, k * 2 = ok := ⟨_, rfl⟩
      rw [hok] at a1 a2
      obtain ⟨x1, x2⟩ := x
      dsimp only at a1 a2
      have c1 := (KB.out.cell (p := ⟨g, ok, none⟩) hg).trans a1
      have c2 := (KB.out.cell (p := ⟨g, ok + 1, none⟩) hg).trans a2
      clear a1 a2
      clear hx hmem
      cases hp : lngP (x1, x2)
      · rw [hp] at mF
        have HP := keep hp
        clear hp
        go_wp2_with fail
        refine mF.mono ?_
        rintro _ w1 ⟨rfl, hb1⟩
        have KB1 := keep (KB.out.trans (hb1.mono KB.out.size))
        clear hb1 mF c1 c2
        go_wp2
        go_roundw
        case measure => simp [intOf]; omega
        case rel =>
          refine ⟨k + 1, by omega, by go_num, fun j y hj hy => ?_, KB1.out⟩
          rcases Nat.lt_succ_iff_lt_or_eq.1 hj with h | h
          · exact KF.out j y h hy
          · subst h
            rw [HX.out] at hy
            cases hy
            exact HP.out
      · rw [hp] at mF
        have HP := keep hp
        clear hp
        go_wp2_with fail
        refine mF.mono ?_
        rintro _ w1 ⟨rfl, hb1⟩
        have KB1 := keep (KB.out.trans (hb1.mono KB.out.size))
        clear hb1 mF c1 c2
        go_wp2
        go_ret
        exact ⟨⟨_, rfl, fun _ => ⟨_, HMEM.out, HP.out⟩, fun _ => hz0⟩, KB1.out⟩
    · have hz : ¬ (k : Int) < (L : Int) := by omega
      go_wp2
      go_ret
      refine ⟨⟨_, rfl, fun h => absurd h (by decide), ?_⟩, KB.out⟩
      rintro ⟨x, hx, hp⟩
      obtain ⟨j, hj, e⟩ := List.mem_iff_getElem.1 hx
      have := KF.out j x (by have := HL.out; omega) (by rw [List.getElem?_eq_getElem hj, e])
      rw [hp] at this; cases this
theorem some_pairs (w : World) (v : Value) (l : List (ByteArray × ByteArray)) (hR : Pr w v l) (m : ∀ x ∈ l, ∀ w' : World, Calls Tryz.prog 167 #[.agg #[.string x.1, .string x.2]] w' fun r w'' => r = .returned (.bool (lngP x)) ∧ Below w'.heap.size w' w'') :
    Calls Tryz.prog 166 #[v, .func (.func 167) #[] #[]] w fun r w' => (∃ q, r = .returned (.bool q) ∧ (q = true ↔ Sme lngP l)) ∧ Below w.heap.size w w' := by
  have mI := index_pairs w v l hR m
  clear m hR
  go_enter Tryz.func166, Tryz.ntmps166
  go_wp2_with fail
  refine mI.mono ?_
  rintro _ w1 ⟨⟨z, rfl, hz⟩, hb⟩
  have HZ := keep hz
  clear hz mI
  go_wp2
  go_ret
  exact ⟨⟨_, rfl, by rw [decide_eq_true_eq]; exact HZ.out⟩, hb⟩
theorem index_ranks (w : World) (v : Value) (l : List (ByteArray × Nat)) (hR : Ra w v l) (m : ∀ x ∈ l, ∀ w' : World, Calls Tryz.prog 168 #[.agg #[.string x.1, .float .f64 x.2]] w' fun r w'' => r = .returned (.bool (lngM x)) ∧ Below w'.heap.size w' w'') :
    Calls Tryz.prog 163 #[v, .func (.func 168) #[] #[]] w fun r w' => (∃ z : Int, r = .returned (.int .i64 z) ∧ (0 ≤ z ↔ Sme lngM l)) ∧ Below w.heap.size w w' := by
  have hmx := own_max hR
  unfold maxLen at hmx
  obtain ⟨ao, ca, rfl⟩ := own_sl hR
  obtain ⟨L, hL⟩ : ∃ L, l.length = L := ⟨_, rfl⟩
  have HM := keep m
  have HR := keep hR
  have HL := keep hL
  rw [hL] at hmx HR ⊢
  clear hR hL m
  go_enter Tryz.func163, Tryz.ntmps163
  go_wp2
  go_loopw [8] (fun i wr => ∃ k : Nat, k ≤ L ∧ i = .int .i64 k ∧ Kept (∀ j x, j < k → l[j]? = some x → lngM x = false) ∧ Kept (Below w.heap.size w wr)) (fun i _ => L - (intOf i).toNat)
  case atStart => exact ⟨0, Nat.zero_le _, rfl, fun j x h => absurd h (Nat.not_lt_zero _), Below.refl _ _⟩
  case round =>
    obtain ⟨k, hk, rfl, KF, KB⟩ := hrel
    by_cases hlt : k < L
    · have hz : (k : Int) < (L : Int) := by omega
      have hz0 : (0 : Int) ≤ (k : Int) := by omega
      have KW : IntKind.i64.wrap ((k : Int) + 1) = ((k + 1 : Nat) : Int) := by rw [IntKind.wrap_i64]; omega
      obtain ⟨x, hx⟩ : ∃ x, l[k]? = some x := ⟨_, List.getElem?_eq_getElem (by rw [HL.out]; exact hlt)⟩
      have hmem := List.mem_of_getElem? hx
      have mF := HM.out x hmem wr
      have HX := keep hx
      have HMEM := keep hmem
      obtain ⟨g, rfl, hg⟩ : ∃ g, ao = some ⟨g, 0, none⟩ ∧ g < w.heap.size := by
        have h1 := HR.out
        unfold Ra at h1
        rw [HL.out] at h1
        exact own_some h1 (by omega)
      obtain ⟨a1, a2⟩ := Ra.at HR.out hx
      obtain ⟨ok, hok⟩ : ∃ ok, k * 2 = ok := ⟨_, rfl⟩
      rw [hok] at a1 a2
      obtain ⟨x1, x2⟩ := x
      dsimp only at a1 a2
      have c1 := (KB.out.cell (p := ⟨g, ok, none⟩) hg).trans a1
      have c2 := (KB.out.cell (p := ⟨g, ok + 1, none⟩) hg).trans a2
      clear a1 a2
      clear hx hmem
      cases hp : lngM (x1, x2)
      · rw [hp] at mF
        have HP := keep hp
        clear hp
        go_wp2_with fail
        refine mF.mono ?_
        rintro _ w1 ⟨rfl, hb1⟩
        have KB1 := keep (KB.out.trans (hb1.mono KB.out.size))
        clear hb1 mF c1 c2
        go_wp2
        go_roundw
        case measure => simp [intOf]; omega
        case rel =>
          refine ⟨k + 1, by omega, by go_num, fun j y hj hy => ?_, KB1.out⟩
          rcases Nat.lt_succ_iff_lt_or_eq.1 hj with h | h
          · exact KF.out j y h hy
          · subst h
            rw [HX.out] at hy
            cases hy
            exact HP.out
      · rw [hp] at mF
        have HP := keep hp
        clear hp
        go_wp2_with fail
        refine mF.mono ?_
        rintro _ w1 ⟨rfl, hb1⟩
        have KB1 := keep (KB.out.trans (hb1.mono KB.out.size))
        clear hb1 mF c1 c2
        go_wp2
        go_ret
        exact ⟨⟨_, rfl, fun _ => ⟨_, HMEM.out, HP.out⟩, fun _ => hz0⟩, KB1.out⟩
    · have hz : ¬ (k : Int) < (L : Int) := by omega
      go_wp2
      go_ret
      refine ⟨⟨_, rfl, fun h => absurd h (by decide), ?_⟩, KB.out⟩
      rintro ⟨x, hx, hp⟩
      obtain ⟨j, hj, e⟩ := List.mem_iff_getElem.1 hx
      have := KF.out j x (by have := HL.out; omega) (by rw [List.getElem?_eq_getElem hj, e])
      rw [hp] at this; cases this
theorem some_ranks (w : World) (v : Value) (l : List (ByteArray × Nat)) (hR : Ra w v l) (m : ∀ x ∈ l, ∀ w' : World, Calls Tryz.prog 168 #[.agg #[.string x.1, .float .f64 x.2]] w' fun r w'' => r = .returned (.bool (lngM x)) ∧ Below w'.heap.size w' w'') :
    Calls Tryz.prog 95 #[v, .func (.func 168) #[] #[]] w fun r w' => (∃ q, r = .returned (.bool q) ∧ (q = true ↔ Sme lngM l)) ∧ Below w.heap.size w w' := by
  have mI := index_ranks w v l hR m
  clear m hR
  go_enter Tryz.func95, Tryz.ntmps95
  go_wp2_with fail
  refine mI.mono ?_
  rintro _ w1 ⟨⟨z, rfl, hz⟩, hb⟩
  have HZ := keep hz
  clear hz mI
  go_wp2
  go_ret
  exact ⟨⟨_, rfl, by rw [decide_eq_true_eq]; exact HZ.out⟩, hb⟩
theorem index_nans (w : World) (v : Value) (l : List (ByteArray × Nat)) (hR : Ra w v l) (m : ∀ x ∈ l, ∀ w' : World, Calls Tryz.prog 96 #[.agg #[.string x.1, .float .f64 x.2]] w' fun r w'' => r = .returned (.bool (nanM x)) ∧ Below w'.heap.size w' w'') :
    Calls Tryz.prog 163 #[v, .func (.func 96) #[] #[]] w fun r w' => (∃ z : Int, r = .returned (.int .i64 z) ∧ (0 ≤ z ↔ Sme nanM l)) ∧ Below w.heap.size w w' := by
  have hmx := own_max hR
  unfold maxLen at hmx
  obtain ⟨ao, ca, rfl⟩ := own_sl hR
  obtain ⟨L, hL⟩ : ∃ L, l.length = L := ⟨_, rfl⟩
  have HM := keep m
  have HR := keep hR
  have HL := keep hL
  rw [hL] at hmx HR ⊢
  clear hR hL m
  go_enter Tryz.func163, Tryz.ntmps163
  go_wp2
  go_loopw [8] (fun i wr => ∃ k : Nat, k ≤ L ∧ i = .int .i64 k ∧ Kept (∀ j x, j < k → l[j]? = some x → nanM x = false) ∧ Kept (Below w.heap.size w wr)) (fun i _ => L - (intOf i).toNat)
  case atStart => exact ⟨0, Nat.zero_le _, rfl, fun j x h => absurd h (Nat.not_lt_zero _), Below.refl _ _⟩
  case round =>
    obtain ⟨k, hk, rfl, KF, KB⟩ := hrel
    by_cases hlt : k < L
    · have hz : (k : Int) < (L : Int) := by omega
      have hz0 : (0 : Int) ≤ (k : Int) := by omega
      have KW : IntKind.i64.wrap ((k : Int) + 1) = ((k + 1 : Nat) : Int) := by rw [IntKind.wrap_i64]; omega
      obtain ⟨x, hx⟩ : ∃ x, l[k]? = some x := ⟨_, List.getElem?_eq_getElem (by rw [HL.out]; exact hlt)⟩
      have hmem := List.mem_of_getElem? hx
      have mF := HM.out x hmem wr
      have HX := keep hx
      have HMEM := keep hmem
      obtain ⟨g, rfl, hg⟩ : ∃ g, ao = some ⟨g, 0, none⟩ ∧ g < w.heap.size := by
        have h1 := HR.out
        unfold Ra at h1
        rw [HL.out] at h1
        exact own_some h1 (by omega)
      obtain ⟨a1, a2⟩ := Ra.at HR.out hx
      obtain ⟨ok, hok⟩ : ∃ ok, k * 2 = ok := ⟨_, rfl⟩
      rw [hok] at a1 a2
      obtain ⟨x1, x2⟩ := x
      dsimp only at a1 a2
      have c1 := (KB.out.cell (p := ⟨g, ok, none⟩) hg).trans a1
      have c2 := (KB.out.cell (p := ⟨g, ok + 1, none⟩) hg).trans a2
      clear a1 a2
      clear hx hmem
      cases hp : nanM (x1, x2)
      · rw [hp] at mF
        have HP := keep hp
        clear hp
        go_wp2_with fail
        refine mF.mono ?_
        rintro _ w1 ⟨rfl, hb1⟩
        have KB1 := keep (KB.out.trans (hb1.mono KB.out.size))
        clear hb1 mF c1 c2
        go_wp2
        go_roundw
        case measure => simp [intOf]; omega
        case rel =>
          refine ⟨k + 1, by omega, by go_num, fun j y hj hy => ?_, KB1.out⟩
          rcases Nat.lt_succ_iff_lt_or_eq.1 hj with h | h
          · exact KF.out j y h hy
          · subst h
            rw [HX.out] at hy
            cases hy
            exact HP.out
      · rw [hp] at mF
        have HP := keep hp
        clear hp
        go_wp2_with fail
        refine mF.mono ?_
        rintro _ w1 ⟨rfl, hb1⟩
        have KB1 := keep (KB.out.trans (hb1.mono KB.out.size))
        clear hb1 mF c1 c2
        go_wp2
        go_ret
        exact ⟨⟨_, rfl, fun _ => ⟨_, HMEM.out, HP.out⟩, fun _ => hz0⟩, KB1.out⟩
    · have hz : ¬ (k : Int) < (L : Int) := by omega
      go_wp2
      go_ret
      refine ⟨⟨_, rfl, fun h => absurd h (by decide), ?_⟩, KB.out⟩
      rintro ⟨x, hx, hp⟩
      obtain ⟨j, hj, e⟩ := List.mem_iff_getElem.1 hx
      have := KF.out j x (by have := HL.out; omega) (by rw [List.getElem?_eq_getElem hj, e])
      rw [hp] at this; cases this
theorem some_nans (w : World) (v : Value) (l : List (ByteArray × Nat)) (hR : Ra w v l) (m : ∀ x ∈ l, ∀ w' : World, Calls Tryz.prog 96 #[.agg #[.string x.1, .float .f64 x.2]] w' fun r w'' => r = .returned (.bool (nanM x)) ∧ Below w'.heap.size w' w'') :
    Calls Tryz.prog 95 #[v, .func (.func 96) #[] #[]] w fun r w' => (∃ q, r = .returned (.bool q) ∧ (q = true ↔ Sme nanM l)) ∧ Below w.heap.size w w' := by
  have mI := index_nans w v l hR m
  clear m hR
  go_enter Tryz.func95, Tryz.ntmps95
  go_wp2_with fail
  refine mI.mono ?_
  rintro _ w1 ⟨⟨z, rfl, hz⟩, hb⟩
  have HZ := keep hz
  clear hz mI
  go_wp2
  go_ret
  exact ⟨⟨_, rfl, by rw [decide_eq_true_eq]; exact HZ.out⟩, hb⟩
end Vl
end Go.Proofs.YtmgeaanbgjbkcaaGreat

namespace Go.Proofs.YtmgeaanbgjbkcaaGreat
open Go.RowKit Go.Shelf
set_option linter.unusedVariables false
set_option linter.unusedSimpArgs false
set_option maxRecDepth 100000
namespace Vl
open Go.Maps
def kyb (x : ByteArray) : List UInt8 := x.data.toList
theorem kyb_inj {a b : ByteArray} (h : kyb a = kyb b) : a = b := by
  cases a; cases b; unfold kyb at h; congr 1; exact Array.ext' h
theorem keyb_of (k : ByteArray) (hk : k.size ≤ maxLen) : keyOf Tryz.prog 9 (.string k) = some (.string (kyb k)) := by
  simp [keyOf, Tryz.underlying9, mapKey, hk, kyb]
def Seen (w : World) (b n : Nat) (N : List ByteArray) : Prop :=
  ∃ D : DataW Unit, w.ownsMap Tryz.prog 9 unitElem b n D ∧ size D = N.length ∧ ∀ k, has D (.string (kyb k)) = true ↔ k ∈ N
theorem Seen.made (w : World) : Seen (w.alloc (.map #[] 0)) w.heap.size 0 [] := ⟨.map [], World.ownsMap_made w _ _ _, rfl, fun k => by simp [has_eq]⟩
theorem Seen.bel {w w' : World} {b n : Nat} {N : List ByteArray} (h : Seen w b n N) (hb : Below w.heap.size w w') : Seen w' b n N := by
  obtain ⟨D, h1, h2⟩ := h
  have hl := h1.lt
  obtain ⟨es, clock, hh, F, hs, hD⟩ := h1
  exact ⟨D, ⟨es, clock, (hb.block b hl).trans hh, F, hs, hD⟩, h2⟩
theorem Seen.put {w : World} {b n : Nat} {N : List ByteArray} (h : Seen w b n N) (k : ByteArray) (hk : k.size ≤ maxLen) (hn : n < maxLen) :
    ∃ w', (Instr.mapUpdate 291 (.map (some b)) (.string k) (.agg #[])).run Tryz.prog w = .ok () w' ∧ w.grownBy w' (some b) ∧
      ((k ∈ N ∧ ∀ ty, (Builtin.len_ #[291] ty #[.map (some b)]).run Tryz.prog w' = .ok (.int .i64 (N.length : Int)) w') ∨
       (k ∉ N ∧ (∀ ty, (Builtin.len_ #[291] ty #[.map (some b)]).run Tryz.prog w' = .ok (.int .i64 ((N.length + 1 : Nat) : Int)) w') ∧ Seen w' b (n + 1) (N ++ [k]))) := by
  obtain ⟨D, h1, h2, h3⟩ := h
  have K := string_keyed (P := Tryz.prog) Tryz.underlying9
  have hT := h1.tidy K
  obtain ⟨w', r1, r2, r3⟩ := h1.store K Tryz.underlying291 hn (keyb_of k hk) (unitElem_mk (H := Unit))
  have hsz := size_put (k := .string (kyb k)) hT (.agg [] : DataW Unit)
  have hlen := fun ty => r2.len Tryz.underlying291 ty
  refine ⟨w', r1, r3.grown, ?_⟩
  by_cases hm : k ∈ N
  · refine .inl ⟨hm, fun ty => ?_⟩
    rw [hlen ty, hsz, if_pos ((h3 k).2 hm), h2]
  · have hm' : has D (.string (kyb k)) = false := by
      cases e : has D (.string (kyb k))
      · rfl
      · exact absurd ((h3 k).1 e) hm
    refine .inr ⟨hm, fun ty => ?_, _, r2, ?_, fun x => ?_⟩
    · rw [hlen ty, hsz, if_neg (by rw [hm']; simp), h2]
    · rw [hsz, if_neg (by rw [hm']; simp), h2]; simp
    · by_cases e : x = k
      · subst e
        rw [has_put_same hT.isMap (by trivial)]; simp
      · rw [has_put_other (fun e' => e (kyb_inj (by injection e'))), h3 x]; simp [e]
def Twn (N : List ByteArray) (r : Ending) : Prop := ∃ q : Bool, r = .returned (.bool q) ∧ (q = true ↔ ¬ N.Nodup)
theorem nodup_snoc {N : List ByteArray} {k : ByteArray} (h : N.Nodup) (hk : k ∉ N) : (N ++ [k]).Nodup := by
  rw [List.nodup_append]
  refine ⟨h, by simp, fun a ha b hb => ?_⟩
  simp at hb
  subst hb
  exact fun e => hk (e ▸ ha)
theorem take_snoc {α β : Type} {f : α → β} {l : List α} {k : Nat} {x : α} (h : l[k]? = some x) : (l.map f).take (k + 1) = (l.map f).take k ++ [f x] := by
  have hx : (l.map f)[k]? = some (f x) := by rw [List.getElem?_map, h]; rfl
  rw [List.take_add_one, hx]; rfl
theorem twin_of {α β : Type} {f : α → β} {l : List α} {k : Nat} {x : α} (h : l[k]? = some x) (hm : f x ∈ (l.map f).take k) : ¬ (l.map f).Nodup := by
  intro hn
  have e := take_snoc (f := f) h
  have h2 : ((l.map f).take (k + 1)).Nodup := hn.sublist (List.take_sublist _ _)
  rw [e, List.nodup_append] at h2
  exact h2.2.2 _ hm _ (by simp) rfl
theorem name_texts (x : ByteArray) (w : World) : Calls Tryz.prog 158 #[.string x] w fun r w' => r = .returned (.string x) ∧ Below w.heap.size w w' := by
  go_enter Tryz.func158, Tryz.ntmps158
  go_wp2
  go_ret
  exact ⟨rfl, Below.refl _ _⟩
theorem twins_texts (w : World) (v : Value) (l : List (ByteArray)) (hR : It w v l) (hb : ∀ x ∈ l, (x).size ≤ maxLen) :
    Calls Tryz.prog 157 #[v, .func (.func 158) #[] #[]] w fun r w' => Twn (l.map (fun x : ByteArray => x)) r ∧ Below w.heap.size w w' := by
  have hmm := @run_makeMap Tryz.prog
  have sf : ∀ (x : Nat) (w : World) (a : Addr), (store a (.float .f64 x)).run Tryz.prog w = stored Tryz.prog w a (.float .f64 x) .plain := fun x w a => run_store _ w a _ _ rfl
  have hmx := own_max hR
  unfold maxLen at hmx
  obtain ⟨ao, ca, rfl⟩ := own_sl hR
  obtain ⟨L, hL⟩ : ∃ L, l.length = L := ⟨_, rfl⟩
  obtain ⟨N, hN⟩ : ∃ N, l.map (fun x : ByteArray => x) = N := ⟨_, rfl⟩
  have HN := keep hN
  have HS := keep hb
  have HR := keep hR
  have HL := keep hL
  rw [hN]
  rw [hL] at hmx HR ⊢
  obtain ⟨W0, hW0⟩ : ∃ W0, w.alloc (.map #[] 0) = W0 := ⟨_, rfl⟩
  have s0 : Kept (Seen W0 w.heap.size 0 []) := by rw [← hW0]; exact Seen.made w
  have hb0 : Kept (Below w.heap.size w W0) := by rw [← hW0]; exact (Below.refl _ w).alloc (Nat.le_refl _) _
  have HW0 := keep hW0
  clear hR hL hb hN hW0
  go_enter Tryz.func157, Tryz.ntmps157
  go_wp2_with fail
  clear hmm
  go_wp2
  go_loopw [11] (fun i wr => ∃ k : Nat, k ≤ L ∧ i = .int .i64 k ∧ Kept (Seen wr w.heap.size k (N.take k)) ∧ Kept ((N.take k).Nodup) ∧ Kept (Below w.heap.size w wr)) (fun i _ => L - (intOf i).toNat)
  case atStart => exact ⟨0, Nat.zero_le _, rfl, by first | exact s0.out | (rw [HW0.out]; exact s0.out), List.nodup_nil, by first | exact hb0.out | (rw [HW0.out]; exact hb0.out)⟩
  case round =>
    obtain ⟨k, hk, rfl, KS, KD, KB⟩ := hrel
    by_cases hlt : k < L
    · have hz : (k : Int) < (L : Int) := by omega
      have hz0 : (0 : Int) ≤ (k : Int) := by omega
      have KW : IntKind.i64.wrap ((k : Int) + 1) = ((k + 1 : Nat) : Int) := by rw [IntKind.wrap_i64]; omega
      obtain ⟨x, hx⟩ : ∃ x, l[k]? = some x := ⟨_, List.getElem?_eq_getElem (by rw [HL.out]; exact hlt)⟩
      have hsz := HS.out x (List.mem_of_getElem? hx)
      have HX := keep hx
      obtain ⟨g, rfl, hg⟩ : ∃ g, ao = some ⟨g, 0, none⟩ ∧ g < w.heap.size := by
        have h1 := HR.out
        unfold It at h1
        rw [HL.out] at h1
        exact own_some h1 (by omega)
      have c1 : wr.cell? ⟨g, k, none⟩ = some (.string x) := (KB.out.cell (p := ⟨g, k, none⟩) hg).trans (It.at HR.out hx)
      have HSZ := keep hsz
      have mN := name_texts x
      clear hx hsz
      go_wp2_with fail
      refine (mN _).mono ?_
      rintro _ w1 ⟨rfl, hb1⟩
      have hb2 : Below wr.heap.size wr w1 := by first | exact hb1 | exact ((Below.refl _ wr).alloc (Nat.le_refl _) _).trans (hb1.mono (by simp))
      have hNk : (N.take k).length = k := by rw [List.length_take, ← HN.out, List.length_map, HL.out]; omega
      obtain ⟨w2, hrun, hgr, hcase⟩ := (KS.out.bel hb2).put x HSZ.out (by unfold maxLen; omega)
      rw [hNk] at hcase
      have KB2 : Kept (Below w.heap.size w w2) := by
        have h1 := KB.out.trans (hb2.mono KB.out.size)
        exact h1.grown hgr h1.size (fun j e => by cases e; exact Nat.le_refl _)
      clear hb1 hb2 hgr mN c1
      rcases hcase with ⟨hin, hlen⟩ | ⟨hin, hlen, hS2⟩
      · have HIN := keep hin
        have hle : decide ((k : Int) ≤ (k : Int)) = true := decide_eq_true (Int.le_refl _)
        clear hin
        go_wp2
        go_ret
        refine ⟨⟨_, rfl, ⟨fun _ => ?_, fun _ => rfl⟩⟩, KB2.out⟩
        rw [← HN.out]
        exact twin_of HX.out (by rw [HN.out]; exact HIN.out)
      · have HIN := keep hin
        have HS2 := keep hS2
        have hle : decide (((k + 1 : Nat) : Int) ≤ (k : Int)) = false := decide_eq_false (by omega)
        have hle2 : ¬ k + 1 ≤ k := by omega
        have hts : N.take (k + 1) = N.take k ++ [x] := by rw [← HN.out]; exact take_snoc HX.out
        have HTS := keep hts
        clear hin hS2 hts
        go_wp2
        go_roundw
        case measure => simp [intOf]; omega
        case rel =>
          refine ⟨k + 1, by omega, by go_num, ?_, ?_, KB2.out⟩
          · rw [HTS.out]; exact HS2.out
          · rw [HTS.out]; exact nodup_snoc KD.out HIN.out
    · have hz : ¬ (k : Int) < (L : Int) := by omega
      go_wp2
      go_ret
      refine ⟨⟨_, rfl, ⟨(fun h => by cases h), fun h => absurd ?_ h⟩⟩, KB.out⟩
      have e : N.take k = N := List.take_of_length_le (by rw [← HN.out, List.length_map, HL.out]; omega)
      have := KD.out
      rwa [e] at this
theorem name_pairs (x : ByteArray × ByteArray) (w : World) : Calls Tryz.prog 160 #[.agg #[.string x.1, .string x.2]] w fun r w' => r = .returned (.string x.1) ∧ Below w.heap.size w w' := by
  obtain ⟨x1, x2⟩ := x
  dsimp only
  go_enter Tryz.func160, Tryz.ntmps160
  go_wp2
  go_ret
  exact ⟨rfl, (Below.refl _ _).alloc (Nat.le_refl _) _⟩
theorem twins_pairs (w : World) (v : Value) (l : List (ByteArray × ByteArray)) (hR : Pr w v l) (hb : ∀ x ∈ l, (x.1).size ≤ maxLen) :
    Calls Tryz.prog 159 #[v, .func (.func 160) #[] #[]] w fun r w' => Twn (l.map (fun x : ByteArray × ByteArray => x.1)) r ∧ Below w.heap.size w w' := by
  have hmm := @run_makeMap Tryz.prog
  have sf : ∀ (x : Nat) (w : World) (a : Addr), (store a (.float .f64 x)).run Tryz.prog w = stored Tryz.prog w a (.float .f64 x) .plain := fun x w a => run_store _ w a _ _ rfl
  have hmx := own_max hR
  unfold maxLen at hmx
  obtain ⟨ao, ca, rfl⟩ := own_sl hR
  obtain ⟨L, hL⟩ : ∃ L, l.length = L := ⟨_, rfl⟩
  obtain ⟨N, hN⟩ : ∃ N, l.map (fun x : ByteArray × ByteArray => x.1) = N := ⟨_, rfl⟩
  have HN := keep hN
  have HS := keep hb
  have HR := keep hR
  have HL := keep hL
  rw [hN]
  rw [hL] at hmx HR ⊢
  obtain ⟨W0, hW0⟩ : ∃ W0, w.alloc (.map #[] 0) = W0 := ⟨_, rfl⟩
  have s0 : Kept (Seen W0 w.heap.size 0 []) := by rw [← hW0]; exact Seen.made w
  have hb0 : Kept (Below w.heap.size w W0) := by rw [← hW0]; exact (Below.refl _ w).alloc (Nat.le_refl _) _
  have HW0 := keep hW0
  clear hR hL hb hN hW0
  go_enter Tryz.func159, Tryz.ntmps159
  go_wp2_with fail
  clear hmm
  go_wp2
  go_loopw [11] (fun i wr => ∃ k : Nat, k ≤ L ∧ i = .int .i64 k ∧ Kept (Seen wr w.heap.size k (N.take k)) ∧ Kept ((N.take k).Nodup) ∧ Kept (Below w.heap.size w wr)) (fun i _ => L - (intOf i).toNat)
  case atStart => exact ⟨0, Nat.zero_le _, rfl, by first | exact s0.out | (rw [HW0.out]; exact s0.out), List.nodup_nil, by first | exact hb0.out | (rw [HW0.out]; exact hb0.out)⟩
  case round =>
    obtain ⟨k, hk, rfl, KS, KD, KB⟩ := hrel
    by_cases hlt : k < L
    · have hz : (k : Int) < (L : Int) := by omega
      have hz0 : (0 : Int) ≤ (k : Int) := by omega
      have KW : IntKind.i64.wrap ((k : Int) + 1) = ((k + 1 : Nat) : Int) := by rw [IntKind.wrap_i64]; omega
      obtain ⟨x, hx⟩ : ∃ x, l[k]? = some x := ⟨_, List.getElem?_eq_getElem (by rw [HL.out]; exact hlt)⟩
      have hsz := HS.out x (List.mem_of_getElem? hx)
      have HX := keep hx
      obtain ⟨g, rfl, hg⟩ : ∃ g, ao = some ⟨g, 0, none⟩ ∧ g < w.heap.size := by
        have h1 := HR.out
        unfold Pr at h1
        rw [HL.out] at h1
        exact own_some h1 (by omega)
      obtain ⟨a1, a2⟩ := Pr.at HR.out hx
      obtain ⟨ok, hok⟩ : ∃ ok, k * 2 = ok := ⟨_, rfl⟩
      rw [hok] at a1 a2
      obtain ⟨x1, x2⟩ := x
      dsimp only at a1 a2 hsz
      have c1 := (KB.out.cell (p := ⟨g, ok, none⟩) hg).trans a1
      have c2 := (KB.out.cell (p := ⟨g, ok + 1, none⟩) hg).trans a2
      clear a1 a2
      have HSZ := keep hsz
      have mN := name_pairs (x1, x2)
      clear hx hsz
      go_wp2_with fail
      refine (mN _).mono ?_
      rintro _ w1 ⟨rfl, hb1⟩
      have hb2 : Below wr.heap.size wr w1 := by first | exact hb1 | exact ((Below.refl _ wr).alloc (Nat.le_refl _) _).trans (hb1.mono (by simp))
      have hNk : (N.take k).length = k := by rw [List.length_take, ← HN.out, List.length_map, HL.out]; omega
      obtain ⟨w2, hrun, hgr, hcase⟩ := (KS.out.bel hb2).put x1 HSZ.out (by unfold maxLen; omega)
      rw [hNk] at hcase
      have KB2 : Kept (Below w.heap.size w w2) := by
        have h1 := KB.out.trans (hb2.mono KB.out.size)
        exact h1.grown hgr h1.size (fun j e => by cases e; exact Nat.le_refl _)
      clear hb1 hb2 hgr mN c1 c2
      rcases hcase with ⟨hin, hlen⟩ | ⟨hin, hlen, hS2⟩
      · have HIN := keep hin
        have hle : decide ((k : Int) ≤ (k : Int)) = true := decide_eq_true (Int.le_refl _)
        clear hin
        go_wp2
        go_ret
        refine ⟨⟨_, rfl, ⟨fun _ => ?_, fun _ => rfl⟩⟩, KB2.out⟩
        rw [← HN.out]
        exact twin_of HX.out (by rw [HN.out]; exact HIN.out)
      · have HIN := keep hin
        have HS2 := keep hS2
        have hle : decide (((k + 1 : Nat) : Int) ≤ (k : Int)) = false := decide_eq_false (by omega)
        have hle2 : ¬ k + 1 ≤ k := by omega
        have hts : N.take (k + 1) = N.take k ++ [x1] := by rw [← HN.out]; exact take_snoc HX.out
        have HTS := keep hts
        clear hin hS2 hts
        go_wp2
        go_roundw
        case measure => simp [intOf]; omega
        case rel =>
          refine ⟨k + 1, by omega, by go_num, ?_, ?_, KB2.out⟩
          · rw [HTS.out]; exact HS2.out
          · rw [HTS.out]; exact nodup_snoc KD.out HIN.out
    · have hz : ¬ (k : Int) < (L : Int) := by omega
      go_wp2
      go_ret
      refine ⟨⟨_, rfl, ⟨(fun h => by cases h), fun h => absurd ?_ h⟩⟩, KB.out⟩
      have e : N.take k = N := List.take_of_length_le (by rw [← HN.out, List.length_map, HL.out]; omega)
      have := KD.out
      rwa [e] at this
theorem name_ranks (x : ByteArray × Nat) (w : World) : Calls Tryz.prog 162 #[.agg #[.string x.1, .float .f64 x.2]] w fun r w' => r = .returned (.string x.1) ∧ Below w.heap.size w w' := by
  obtain ⟨x1, x2⟩ := x
  dsimp only
  go_enter Tryz.func162, Tryz.ntmps162
  go_wp2
  go_ret
  exact ⟨rfl, (Below.refl _ _).alloc (Nat.le_refl _) _⟩
theorem twins_ranks (w : World) (v : Value) (l : List (ByteArray × Nat)) (hR : Ra w v l) (hb : ∀ x ∈ l, (x.1).size ≤ maxLen) :
    Calls Tryz.prog 161 #[v, .func (.func 162) #[] #[]] w fun r w' => Twn (l.map (fun x : ByteArray × Nat => x.1)) r ∧ Below w.heap.size w w' := by
  have hmm := @run_makeMap Tryz.prog
  have sf : ∀ (x : Nat) (w : World) (a : Addr), (store a (.float .f64 x)).run Tryz.prog w = stored Tryz.prog w a (.float .f64 x) .plain := fun x w a => run_store _ w a _ _ rfl
  have hmx := own_max hR
  unfold maxLen at hmx
  obtain ⟨ao, ca, rfl⟩ := own_sl hR
  obtain ⟨L, hL⟩ : ∃ L, l.length = L := ⟨_, rfl⟩
  obtain ⟨N, hN⟩ : ∃ N, l.map (fun x : ByteArray × Nat => x.1) = N := ⟨_, rfl⟩
  have HN := keep hN
  have HS := keep hb
  have HR := keep hR
  have HL := keep hL
  rw [hN]
  rw [hL] at hmx HR ⊢
  obtain ⟨W0, hW0⟩ : ∃ W0, w.alloc (.map #[] 0) = W0 := ⟨_, rfl⟩
  have s0 : Kept (Seen W0 w.heap.size 0 []) := by rw [← hW0]; exact Seen.made w
  have hb0 : Kept (Below w.heap.size w W0) := by rw [← hW0]; exact (Below.refl _ w).alloc (Nat.le_refl _) _
  have HW0 := keep hW0
  clear hR hL hb hN hW0
  go_enter Tryz.func161, Tryz.ntmps161
  go_wp2_with fail
  clear hmm
  go_wp2
  go_loopw [11] (fun i wr => ∃ k : Nat, k ≤ L ∧ i = .int .i64 k ∧ Kept (Seen wr w.heap.size k (N.take k)) ∧ Kept ((N.take k).Nodup) ∧ Kept (Below w.heap.size w wr)) (fun i _ => L - (intOf i).toNat)
  case atStart => exact ⟨0, Nat.zero_le _, rfl, by first | exact s0.out | (rw [HW0.out]; exact s0.out), List.nodup_nil, by first | exact hb0.out | (rw [HW0.out]; exact hb0.out)⟩
  case round =>
    obtain ⟨k, hk, rfl, KS, KD, KB⟩ := hrel
    by_cases hlt : k < L
    · have hz : (k : Int) < (L : Int) := by omega
      have hz0 : (0 : Int) ≤ (k : Int) := by omega
      have KW : IntKind.i64.wrap ((k : Int) + 1) = ((k + 1 : Nat) : Int) := by rw [IntKind.wrap_i64]; omega
      obtain ⟨x, hx⟩ : ∃ x, l[k]? = some x := ⟨_, List.getElem?_eq_getElem (by rw [HL.out]; exact hlt)⟩
      have hsz := HS.out x (List.mem_of_getElem? hx)
      have HX := keep hx
      obtain ⟨g, rfl, hg⟩ : ∃ g, ao = some ⟨g, 0, none⟩ ∧ g < w.heap.size := by
        have h1 := HR.out
        unfold Ra at h1
        rw [HL.out] at h1
        exact own_some h1 (by omega)
      obtain ⟨a1, a2⟩ := Ra.at HR.out hx
      obtain ⟨ok, hok⟩ : ∃ ok, k * 2 = ok := ⟨_, rfl⟩
      rw [hok] at a1 a2
      obtain ⟨x1, x2⟩ := x
      dsimp only at a1 a2 hsz
      have c1 := (KB.out.cell (p := ⟨g, ok, none⟩) hg).trans a1
      have c2 := (KB.out.cell (p := ⟨g, ok + 1, none⟩) hg).trans a2
      clear a1 a2
      have HSZ := keep hsz
      have mN := name_ranks (x1, x2)
      clear hx hsz
      go_wp2_with fail
      refine (mN _).mono ?_
      rintro _ w1 ⟨rfl, hb1⟩
      have hb2 : Below wr.heap.size wr w1 := by first | exact hb1 | exact ((Below.refl _ wr).alloc (Nat.le_refl _) _).trans (hb1.mono (by simp))
      have hNk : (N.take k).length = k := by rw [List.length_take, ← HN.out, List.length_map, HL.out]; omega
      obtain ⟨w2, hrun, hgr, hcase⟩ := (KS.out.bel hb2).put x1 HSZ.out (by unfold maxLen; omega)
      rw [hNk] at hcase
      have KB2 : Kept (Below w.heap.size w w2) := by
        have h1 := KB.out.trans (hb2.mono KB.out.size)
        exact h1.grown hgr h1.size (fun j e => by cases e; exact Nat.le_refl _)
      clear hb1 hb2 hgr mN c1 c2
      rcases hcase with ⟨hin, hlen⟩ | ⟨hin, hlen, hS2⟩
      · have HIN := keep hin
        have hle : decide ((k : Int) ≤ (k : Int)) = true := decide_eq_true (Int.le_refl _)
        clear hin
        go_wp2
        go_ret
        refine ⟨⟨_, rfl, ⟨fun _ => ?_, fun _ => rfl⟩⟩, KB2.out⟩
        rw [← HN.out]
        exact twin_of HX.out (by rw [HN.out]; exact HIN.out)
      · have HIN := keep hin
        have HS2 := keep hS2
        have hle : decide (((k + 1 : Nat) : Int) ≤ (k : Int)) = false := decide_eq_false (by omega)
        have hle2 : ¬ k + 1 ≤ k := by omega
        have hts : N.take (k + 1) = N.take k ++ [x1] := by rw [← HN.out]; exact take_snoc HX.out
        have HTS := keep hts
        clear hin hS2 hts
        go_wp2
        go_roundw
        case measure => simp [intOf]; omega
        case rel =>
          refine ⟨k + 1, by omega, by go_num, ?_, ?_, KB2.out⟩
          · rw [HTS.out]; exact HS2.out
          · rw [HTS.out]; exact nodup_snoc KD.out HIN.out
    · have hz : ¬ (k : Int) < (L : Int) := by omega
      go_wp2
      go_ret
      refine ⟨⟨_, rfl, ⟨(fun h => by cases h), fun h => absurd ?_ h⟩⟩, KB.out⟩
      have e : N.take k = N := List.take_of_length_le (by rw [← HN.out, List.length_map, HL.out]; omega)
      have := KD.out
      rwa [e] at this
end Vl
end Go.Proofs.YtmgeaanbgjbkcaaGreat

namespace Go.Proofs.YtmgeaanbgjbkcaaGreat
open Go.RowKit Go.Shelf
set_option linter.unusedVariables false
set_option linter.unusedSimpArgs false
set_option maxRecDepth 100000
namespace Vl
def Wf (d : Dt) : Prop := d.text.size ≤ maxLen ∧ (∀ x ∈ d.items, x.size ≤ maxLen) ∧ (∀ x ∈ d.pairs, x.1.size ≤ maxLen ∧ x.2.size ≤ maxLen) ∧ (∀ x ∈ d.ranks, x.1.size ≤ maxLen ∧ x.2 < Dw.M)
def Bx (w : World) (B : Nat) (kd : Int) (tx : ByteArray) (iv pv rv : Value) : Prop := w.heap[B]? = some (.cells #[.int .i64 kd, .string tx, iv, pv, rv] 30 (0, 0))
theorem Bx.bel {w w' : World} {B : Nat} {kd : Int} {tx : ByteArray} {iv pv rv : Value} (h : Bx w B kd tx iv pv rv) (hb : Below w.heap.size w w') : Bx w' B kd tx iv pv rv := (hb.block B (Array.getElem?_eq_some_iff.1 h).1).trans h
def Dbl (d : Dt) (r : Ending) : Prop := ∃ q : Bool, r = .returned (.bool q) ∧ (q = true ↔ Twin d)
def Lgt (d : Dt) (r : Ending) : Prop := ∃ q : Bool, r = .returned (.bool q) ∧ (q = true ↔ Long d)
def Rfe (d : Dt) (r : Ending) : Prop := ∃ c : Int, r = .returned (.int .i64 c) ∧ Rfz d c
theorem doubled_any (w : World) (V : Value) (d : Dt) (h : Pln w V d) (hwf : Wf d) :
    Calls Tryz.prog 94 #[V] w fun r w' => Dbl d r ∧ Below w.heap.size w w' := by
  obtain ⟨iv, pv, rv, rfl, a1, a2, a3⟩ := h
  obtain ⟨io, ic, hio⟩ := own_sl a1
  obtain ⟨po, pc, hpo⟩ := own_sl a2
  obtain ⟨ro, rc, hro⟩ := own_sl a3
  obtain ⟨kd, tx, is, ps, rs⟩ := d
  unfold plV
  obtain ⟨w1, w2, w3, w4⟩ := hwf
  dsimp only at *
  obtain ⟨W1, hW1⟩ : ∃ W1, w.alloc (.cells #[.int .i64 kd, .string tx, iv, pv, rv] 30) = W1 := ⟨_, rfl⟩
  have hb1 : Below w.heap.size w W1 := by rw [← hW1]; exact (Below.refl _ w).alloc (Nat.le_refl _) _
  have g1 : Bx W1 w.heap.size kd tx iv pv rv := by rw [← hW1]; exact heap_alloc_new _ _
  have m1 : ∀ W', Below W1.heap.size W1 W' → _ := fun W' hb => twins_texts W' iv is (kept (kept a1 hb1) hb) w2
  have m2 : ∀ W', Below W1.heap.size W1 W' → _ := fun W' hb => twins_pairs W' pv ps (kept (kept a2 hb1) hb) (fun x hx => (w3 x hx).1)
  have m3 : ∀ W', Below W1.heap.size W1 W' → _ := fun W' hb => twins_ranks W' rv rs (kept (kept a3 hb1) hb) (fun x hx => (w4 x hx).1)
  subst hio hpo hro
  have HB1 := keep hb1
  have HW1 := keep hW1
  have G1 := keep g1
  have eid : is.map (fun x => x) = is := by simp
  rw [eid] at m1
  clear hb1 hW1 g1 eid a1 a2 a3
  by_cases hk : kd = 4
  · obtain ⟨c0, c1, c2, c3, c4⟩ := five_cells G1.out
    subst hk
    go_enter Tryz.func94, Tryz.ntmps94
    go_wp2_with fail
    rw [HW1.out]
    refine (m1 _ (Below.refl _ _)).mono ?_
    rintro _ V2 ⟨⟨q1, rfl, hq1⟩, hb2⟩
    have HQ1 := keep hq1
    clear c0 c1 c2 c3 c4 hq1
    cases q1
    · obtain ⟨c0, c1, c2, c3, c4⟩ := five_cells (G1.out.bel hb2)
      have mm := m2 V2 hb2
      have HB2 := keep hb2
      clear hb2
      go_wp2_with fail
      refine mm.mono ?_
      rintro _ V3 ⟨⟨q2, rfl, hq2⟩, hb3⟩
      have HQ2 := keep hq2
      have HB3 := keep (HB2.out.trans (hb3.mono HB2.out.size))
      clear c0 c1 c2 c3 c4 hq2 hb3 mm
      cases q2
      · obtain ⟨c0, c1, c2, c3, c4⟩ := five_cells (G1.out.bel HB3.out)
        have mm := m3 V3 HB3.out
        go_wp2_with fail
        refine mm.mono ?_
        rintro _ V4 ⟨⟨q3, rfl, hq3⟩, hb4⟩
        have HQ3 := keep hq3
        have HB4 := keep (HB3.out.trans (hb4.mono HB3.out.size))
        clear c0 c1 c2 c3 c4 hq3 hb4 mm
        go_wp2
        go_ret
        refine ⟨⟨_, rfl, ?_⟩, HB1.out.trans (HB4.out.mono HB1.out.size)⟩
        rw [HQ3.out]
        refine ⟨fun h => .inr (.inr h), fun h => ?_⟩
        rcases h with ⟨_, h⟩ | h | h
        · exact absurd (HQ1.out.2 h) (by simp)
        · exact absurd (HQ2.out.2 h) (by simp)
        · exact h
      · go_wp2
        go_ret
        exact ⟨⟨_, rfl, fun _ => .inr (.inl (HQ2.out.1 (by trivial))), fun _ => rfl⟩, HB1.out.trans (HB3.out.mono HB1.out.size)⟩
    · go_wp2
      go_ret
      exact ⟨⟨_, rfl, fun _ => .inl ⟨rfl, HQ1.out.1 (by trivial)⟩, fun _ => rfl⟩, HB1.out.trans (hb2.mono HB1.out.size)⟩
  · obtain ⟨c0, c1, c2, c3, c4⟩ := five_cells G1.out
    go_enter Tryz.func94, Tryz.ntmps94
    go_wp2_with fail
    rw [HW1.out]
    refine (m2 _ (Below.refl _ _)).mono ?_
    rintro _ V3 ⟨⟨q2, rfl, hq2⟩, hb3⟩
    have HQ2 := keep hq2
    have HB3 := keep hb3
    clear c0 c1 c2 c3 c4 hq2 hb3
    cases q2
    · obtain ⟨c0, c1, c2, c3, c4⟩ := five_cells (G1.out.bel HB3.out)
      have mm := m3 V3 HB3.out
      go_wp2_with fail
      refine mm.mono ?_
      rintro _ V4 ⟨⟨q3, rfl, hq3⟩, hb4⟩
      have HQ3 := keep hq3
      have HB4 := keep (HB3.out.trans (hb4.mono HB3.out.size))
      clear c0 c1 c2 c3 c4 hq3 hb4 mm
      go_wp2
      go_ret
      refine ⟨⟨_, rfl, ?_⟩, HB1.out.trans (HB4.out.mono HB1.out.size)⟩
      rw [HQ3.out]
      refine ⟨fun h => .inr (.inr h), fun h => ?_⟩
      rcases h with ⟨h, _⟩ | h | h
      · exact absurd h hk
      · exact absurd (HQ2.out.2 h) (by simp)
      · exact h
    · go_wp2
      go_ret
      exact ⟨⟨_, rfl, fun _ => .inr (.inl (HQ2.out.1 (by trivial))), fun _ => rfl⟩, HB1.out.trans (HB3.out.mono HB1.out.size)⟩
theorem long_any (w : World) (V : Value) (d : Dt) (h : Pln w V d) (hwf : Wf d) :
    Calls Tryz.prog 97 #[V] w fun r w' => Lgt d r ∧ Below w.heap.size w w' := by
  obtain ⟨iv, pv, rv, rfl, a1, a2, a3⟩ := h
  obtain ⟨io, ic, hio⟩ := own_sl a1
  obtain ⟨po, pc, hpo⟩ := own_sl a2
  obtain ⟨ro, rc, hro⟩ := own_sl a3
  obtain ⟨kd, tx, is, ps, rs⟩ := d
  unfold plV
  obtain ⟨w1, w2, w3, w4⟩ := hwf
  dsimp only at *
  obtain ⟨W1, hW1⟩ : ∃ W1, w.alloc (.cells #[.int .i64 kd, .string tx, iv, pv, rv] 30) = W1 := ⟨_, rfl⟩
  have hb1 : Below w.heap.size w W1 := by rw [← hW1]; exact (Below.refl _ w).alloc (Nat.le_refl _) _
  have g1 : Bx W1 w.heap.size kd tx iv pv rv := by rw [← hW1]; exact heap_alloc_new _ _
  have m0 := longtext_any tx w1
  have m1 : ∀ W', Below W1.heap.size W1 W' → _ := fun W' hb => some_texts W' iv is (kept (kept a1 hb1) hb) (fun x hx => longtext_any x (w2 x hx))
  have m2 : ∀ W', Below W1.heap.size W1 W' → _ := fun W' hb => some_pairs W' pv ps (kept (kept a2 hb1) hb) (fun x hx => longpair_any x (w3 x hx).1 (w3 x hx).2)
  have m3 : ∀ W', Below W1.heap.size W1 W' → _ := fun W' hb => some_ranks W' rv rs (kept (kept a3 hb1) hb) (fun x hx => longrank_any x (w4 x hx).1)
  subst hio hpo hro
  have HB1 := keep hb1
  have HW1 := keep hW1
  have G1 := keep g1
  have e1 : Sme lng is ↔ ∃ x ∈ is, 1048576 < x.size := by unfold Sme; simp only [lng_iff]
  have e2 : Sme lngP ps ↔ ∃ x ∈ ps, 1048576 < x.1.size ∨ 1048576 < x.2.size := by unfold Sme lngP; simp only [Bool.or_eq_true, lng_iff]
  have e3 : Sme lngM rs ↔ ∃ x ∈ rs, 1048576 < x.1.size := by unfold Sme lngM; simp only [lng_iff]
  have E0 := keep (lng_iff tx)
  have E1 := keep e1
  have E2 := keep e2
  have E3 := keep e3
  clear hb1 hW1 g1 a1 a2 a3 e1 e2 e3
  obtain ⟨c0, c1, c2, c3, c4⟩ := five_cells G1.out
  cases hl : lng tx
  · rw [hl] at m0
    have HL := keep hl
    clear hl
    go_enter Tryz.func97, Tryz.ntmps97
    go_wp2_with fail
    rw [HW1.out]
    refine (m0 _).mono ?_
    rintro _ V1 ⟨rfl, hb⟩
    have HBa := keep hb
    clear c0 c1 c2 c3 c4 hb m0
    obtain ⟨c0, c1, c2, c3, c4⟩ := five_cells (G1.out.bel HBa.out)
    have mm := m1 V1 HBa.out
    go_wp2_with fail
    refine mm.mono ?_
    rintro _ V2 ⟨⟨q1, rfl, hq1⟩, hb2⟩
    have HQ1 := keep hq1
    have HB2 := keep (HBa.out.trans (hb2.mono HBa.out.size))
    clear c0 c1 c2 c3 c4 hq1 hb2 mm
    cases q1
    · obtain ⟨c0, c1, c2, c3, c4⟩ := five_cells (G1.out.bel HB2.out)
      have mm := m2 V2 HB2.out
      go_wp2_with fail
      refine mm.mono ?_
      rintro _ V3 ⟨⟨q2, rfl, hq2⟩, hb3⟩
      have HQ2 := keep hq2
      have HB3 := keep (HB2.out.trans (hb3.mono HB2.out.size))
      clear c0 c1 c2 c3 c4 hq2 hb3 mm
      cases q2
      · obtain ⟨c0, c1, c2, c3, c4⟩ := five_cells (G1.out.bel HB3.out)
        have mm := m3 V3 HB3.out
        go_wp2_with fail
        refine mm.mono ?_
        rintro _ V4 ⟨⟨q3, rfl, hq3⟩, hb4⟩
        have HQ3 := keep hq3
        have HB4 := keep (HB3.out.trans (hb4.mono HB3.out.size))
        clear c0 c1 c2 c3 c4 hq3 hb4 mm
        go_wp2
        go_ret
        refine ⟨⟨_, rfl, ?_⟩, HB1.out.trans (HB4.out.mono HB1.out.size)⟩
        rw [HQ3.out, E3.out]
        refine ⟨fun h => .inr (.inr (.inr h)), fun h => ?_⟩
        rcases h with h | h | h | h
        · exact absurd (E0.out.2 h) (by rw [HL.out]; simp)
        · exact absurd (HQ1.out.2 (E1.out.2 h)) (by simp)
        · exact absurd (HQ2.out.2 (E2.out.2 h)) (by simp)
        · exact h
      · go_wp2
        go_ret
        exact ⟨⟨_, rfl, fun _ => .inr (.inr (.inl (E2.out.1 (HQ2.out.1 (by trivial))))), fun _ => rfl⟩, HB1.out.trans (HB3.out.mono HB1.out.size)⟩
    · go_wp2
      go_ret
      exact ⟨⟨_, rfl, fun _ => .inr (.inl (E1.out.1 (HQ1.out.1 (by trivial)))), fun _ => rfl⟩, HB1.out.trans (HB2.out.mono HB1.out.size)⟩
  · rw [hl] at m0
    have HL := keep hl
    clear hl
    go_enter Tryz.func97, Tryz.ntmps97
    go_wp2_with fail
    rw [HW1.out]
    refine (m0 _).mono ?_
    rintro _ V1 ⟨rfl, hb⟩
    have HBa := keep hb
    clear c0 c1 c2 c3 c4 hb m0
    go_wp2
    go_ret
    exact ⟨⟨_, rfl, fun _ => .inl (E0.out.1 HL.out), fun _ => rfl⟩, HB1.out.trans (HBa.out.mono HB1.out.size)⟩
theorem refuse_any (w : World) (V : Value) (d : Dt) (h : Pln w V d) (hwf : Wf d) :
    Calls Tryz.prog 46 #[V] w fun r w' => Rfe d r ∧ Below w.heap.size w w' := by
  have hP := h
  obtain ⟨iv, pv, rv, rfl, a1, a2, a3⟩ := h
  obtain ⟨io, ic, hio⟩ := own_sl a1
  obtain ⟨po, pc, hpo⟩ := own_sl a2
  obtain ⟨ro, rc, hro⟩ := own_sl a3
  have hm1 := own_max a1
  have hm2 := own_max a2
  have hm3 := own_max a3
  unfold maxLen at hm1 hm2 hm3
  obtain ⟨W1, hW1⟩ : ∃ W1, w.alloc (.cells #[.int .i64 d.kind, .string d.text, iv, pv, rv] 30) = W1 := ⟨_, rfl⟩
  have hb1 : Below w.heap.size w W1 := by rw [← hW1]; exact (Below.refl _ w).alloc (Nat.le_refl _) _
  have g1 : Bx W1 w.heap.size d.kind d.text iv pv rv := by rw [← hW1]; exact heap_alloc_new _ _
  have m1 : ∀ W', Below W1.heap.size W1 W' → _ := fun W' hb => stray_any W' _ d ((hP.bel hb1).bel hb)
  have m2 : ∀ W', Below W1.heap.size W1 W' → _ := fun W' hb => doubled_any W' _ d ((hP.bel hb1).bel hb) hwf
  have m3 : ∀ W', Below W1.heap.size W1 W' → _ := fun W' hb => some_nans W' rv d.ranks (kept (kept a3 hb1) hb) (fun x _ => noscore_any x)
  have m4 : ∀ W', Below W1.heap.size W1 W' → _ := fun W' hb => long_any W' _ d ((hP.bel hb1).bel hb) hwf
  have e3 : Sme nanM d.ranks ↔ Void d := Iff.rfl
  subst hio hpo hro
  have HB1 := keep hb1
  have HW1 := keep hW1
  have G1 := keep g1
  have E3 := keep e3
  have E1 : Kept (Bad d ↔ (¬ Fit d ∨ Twin d ∨ Void d)) := Iff.rfl
  have E4 : Kept (Full d ↔ (1048576 < d.items.length ∨ 1048576 < d.pairs.length ∨ 1048576 < d.ranks.length)) := Iff.rfl
  unfold plV at m1 m2 m4 ⊢
  generalize d.items.length = n1 at *
  generalize d.pairs.length = n2 at *
  generalize d.ranks.length = n3 at *
  generalize d.kind = kd at *
  generalize d.text = tx at *
  clear hb1 hW1 g1 a1 a2 a3 e3 hP hwf
  obtain ⟨c0, c1, c2, c3, c4⟩ := five_cells G1.out
  have DONE : ∀ (V'' : World) (c : Int), Below W1.heap.size W1 V'' → Rfz d c → Rfe d (.returned (.int .i64 c)) ∧ Below w.heap.size w V'' := fun _ _ hb hc => ⟨⟨_, rfl, hc⟩, HB1.out.trans (hb.mono HB1.out.size)⟩
  have DN := keep DONE
  clear DONE
  go_enter Tryz.func46, Tryz.ntmps46
  go_wp2_with fail
  rw [HW1.out]
  refine (m1 _ (Below.refl _ _)).mono ?_
  rintro _ V1 ⟨⟨q1, rfl, hq1⟩, hb⟩
  have HQ1 := keep hq1
  have HBa := keep hb
  clear c0 c1 c2 c3 c4 hb hq1
  cases q1
  · obtain ⟨c0, c1, c2, c3, c4⟩ := five_cells (G1.out.bel HBa.out)
    have mm := m2 V1 HBa.out
    go_wp2_with fail
    refine mm.mono ?_
    rintro _ V2 ⟨⟨q2, rfl, hq2⟩, hb2⟩
    have HQ2 := keep hq2
    have HB2 := keep (HBa.out.trans (hb2.mono HBa.out.size))
    clear c0 c1 c2 c3 c4 hq2 hb2 mm
    cases q2
    · obtain ⟨c0, c1, c2, c3, c4⟩ := five_cells (G1.out.bel HB2.out)
      have mm := m3 V2 HB2.out
      go_wp2_with fail
      refine mm.mono ?_
      rintro _ V3 ⟨⟨q3, rfl, hq3⟩, hb3⟩
      have HQ3 := keep hq3
      have HB3 := keep (HB2.out.trans (hb3.mono HB2.out.size))
      clear c0 c1 c2 c3 c4 hq3 hb3 mm
      cases q3
      · have NB : Kept (¬ Bad d) := by
          intro hb
          rcases E1.out.1 hb with h | h | h
          · exact absurd (HQ1.out.2 h) (by simp)
          · exact absurd (HQ2.out.2 h) (by simp)
          · exact absurd (HQ3.out.2 (E3.out.2 h)) (by simp)
        obtain ⟨c0, c1, c2, c3, c4⟩ := five_cells (G1.out.bel HB3.out)
        have mm := m4 V3 HB3.out
        go_wp2_with fail
        refine mm.mono ?_
        rintro _ V4 ⟨⟨q4, rfl, hq4⟩, hb4⟩
        have HQ4 := keep hq4
        have HB4 := keep (HB3.out.trans (hb4.mono HB3.out.size))
        clear c0 c1 c2 c3 c4 hq4 hb4 mm
        cases q4
        · have NL : Kept (¬ Long d) := fun h => absurd (HQ4.out.2 h) (by simp)
          obtain ⟨c0, c1, c2, c3, c4⟩ := five_cells (G1.out.bel HB4.out)
          by_cases h12 : n1 < n2
          · by_cases h23 : n2 < n3
            · by_cases hf : 1048576 < n3
              · go_wp2
                all_goals
                  go_ret
                  first | exact DN.out _ _ HB4.out (.inr (.inr (.inl ⟨rfl, NB.out, NL.out, E4.out.2 (by omega)⟩))) | exact DN.out _ _ HB4.out (.inr (.inr (.inr ⟨rfl, NB.out, NL.out, fun h => absurd (E4.out.1 h) (by omega)⟩)))
              · go_wp2
                all_goals
                  go_ret
                  first | exact DN.out _ _ HB4.out (.inr (.inr (.inl ⟨rfl, NB.out, NL.out, E4.out.2 (by omega)⟩))) | exact DN.out _ _ HB4.out (.inr (.inr (.inr ⟨rfl, NB.out, NL.out, fun h => absurd (E4.out.1 h) (by omega)⟩)))
            · by_cases hf : 1048576 < n2
              · go_wp2
                all_goals
                  go_ret
                  first | exact DN.out _ _ HB4.out (.inr (.inr (.inl ⟨rfl, NB.out, NL.out, E4.out.2 (by omega)⟩))) | exact DN.out _ _ HB4.out (.inr (.inr (.inr ⟨rfl, NB.out, NL.out, fun h => absurd (E4.out.1 h) (by omega)⟩)))
              · go_wp2
                all_goals
                  go_ret
                  first | exact DN.out _ _ HB4.out (.inr (.inr (.inl ⟨rfl, NB.out, NL.out, E4.out.2 (by omega)⟩))) | exact DN.out _ _ HB4.out (.inr (.inr (.inr ⟨rfl, NB.out, NL.out, fun h => absurd (E4.out.1 h) (by omega)⟩)))
          · by_cases h13 : n1 < n3
            · by_cases hf : 1048576 < n3
              · go_wp2
                all_goals
                  go_ret
                  first | exact DN.out _ _ HB4.out (.inr (.inr (.inl ⟨rfl, NB.out, NL.out, E4.out.2 (by omega)⟩))) | exact DN.out _ _ HB4.out (.inr (.inr (.inr ⟨rfl, NB.out, NL.out, fun h => absurd (E4.out.1 h) (by omega)⟩)))
              · go_wp2
                all_goals
                  go_ret
                  first | exact DN.out _ _ HB4.out (.inr (.inr (.inl ⟨rfl, NB.out, NL.out, E4.out.2 (by omega)⟩))) | exact DN.out _ _ HB4.out (.inr (.inr (.inr ⟨rfl, NB.out, NL.out, fun h => absurd (E4.out.1 h) (by omega)⟩)))
            · by_cases hf : 1048576 < n1
              · go_wp2
                all_goals
                  go_ret
                  first | exact DN.out _ _ HB4.out (.inr (.inr (.inl ⟨rfl, NB.out, NL.out, E4.out.2 (by omega)⟩))) | exact DN.out _ _ HB4.out (.inr (.inr (.inr ⟨rfl, NB.out, NL.out, fun h => absurd (E4.out.1 h) (by omega)⟩)))
              · go_wp2
                all_goals
                  go_ret
                  first | exact DN.out _ _ HB4.out (.inr (.inr (.inl ⟨rfl, NB.out, NL.out, E4.out.2 (by omega)⟩))) | exact DN.out _ _ HB4.out (.inr (.inr (.inr ⟨rfl, NB.out, NL.out, fun h => absurd (E4.out.1 h) (by omega)⟩)))
        · go_wp2
          go_ret
          exact DN.out _ _ HB4.out (.inr (.inl ⟨rfl, NB.out, HQ4.out.1 (by trivial)⟩))
      · go_wp2
        go_ret
        exact DN.out _ _ HB3.out (.bad (E1.out.2 (.inr (.inr (E3.out.1 (HQ3.out.1 (by trivial)))))))
    · go_wp2
      go_ret
      exact DN.out _ _ HB2.out (.bad (E1.out.2 (.inr (.inl (HQ2.out.1 (by trivial))))))
  · go_wp2
    go_ret
    exact DN.out _ _ HBa.out (.bad (E1.out.2 (.inl (HQ1.out.1 (by trivial)))))
end Vl
end Go.Proofs.YtmgeaanbgjbkcaaGreat
