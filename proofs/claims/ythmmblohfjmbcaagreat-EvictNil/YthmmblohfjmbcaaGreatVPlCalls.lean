/-
  Contracts over this program: Drop, Take, Candidates, Clear and New of a pool, whatever it holds.
-/
import Derived.Test.YthmmblohfjmbcaaGreatVPlEq
namespace Go.Proofs.YthmmblohfjmbcaaGreat.DV
open Go.RowKit Go.Shelf
set_option linter.unusedVariables false
set_option maxRecDepth 100000
/-- a row that rises, each key once -/
def Good (l : List Ent) : Prop := l.Pairwise (fun a b => snr a b = true) ∧ l.Pairwise (fun a b => a.1 ≠ b.1)
def del (key : ByteArray) (l : List Ent) : List Ent := l.filter (fun e => !isK key e)
def has (key : ByteArray) (l : List Ent) : Bool := l.any (isK key)
theorem isK_false {key : ByteArray} {e : Ent} (h : e.1 ≠ key) : isK key e = false := by
  cases h' : isK key e with
  | false => rfl
  | true => exact absurd (isK_iff.1 h') h
theorem del_none {key : ByteArray} {l : List Ent} (h : ∀ e ∈ l, e.1 ≠ key) : del key l = l :=
  List.filter_eq_self.2 (fun e he => by rw [isK_false (h e he)]; rfl)
theorem has_none {key : ByteArray} {l : List Ent} (h : ∀ e ∈ l, e.1 ≠ key) : has key l = false :=
  List.any_eq_false.2 (fun e he => by rw [isK_false (h e he)]; simp)
theorem has_at {key : ByteArray} {l : List Ent} {p : Nat} {x : Int} (h : l[p]? = some (key, x)) : has key l = true :=
  List.any_eq_true.2 ⟨(key, x), List.mem_iff_getElem?.2 ⟨p, h⟩, isK_iff.2 rfl⟩
theorem has_iff {key : ByteArray} {l : List Ent} : has key l = true ↔ ∃ e ∈ l, e.1 = key := by
  unfold has
  rw [List.any_eq_true]
  exact ⟨fun ⟨e, h, h'⟩ => ⟨e, h, isK_iff.1 h'⟩, fun ⟨e, h, h'⟩ => ⟨e, h, isK_iff.2 h'⟩⟩
theorem split_at {l : List Ent} {p : Nat} {x : Ent} (h : l[p]? = some x) : l = l.take p ++ x :: l.drop (p + 1) := by
  obtain ⟨hp, rfl⟩ := List.getElem?_eq_some_iff.1 h
  rw [← List.drop_eq_getElem_cons hp, List.take_append_drop]
theorem del_at {key : ByteArray} {l : List Ent} {p : Nat} {x : Int} (hg : l.Pairwise (fun a b => a.1 ≠ b.1)) (h : l[p]? = some (key, x)) : l.take p ++ l.drop (p + 1) = del key l := by
  have e := split_at h
  have hg' := hg
  rw [e, List.pairwise_append, List.pairwise_cons] at hg'
  obtain ⟨_, ⟨h2, _⟩, h3⟩ := hg'
  unfold del
  conv => rhs; rw [e]
  rw [List.filter_append, List.filter_cons_of_neg (by rw [show isK key (key, x) = true from isK_iff.2 rfl]; simp), List.filter_eq_self.2 (fun a ha => by rw [isK_false (h3 a ha (key, x) (by simp))]; rfl), List.filter_eq_self.2 (fun a ha => by rw [isK_false (fun e => h2 a ha e.symm)]; rfl)]
theorem good_del {key : ByteArray} {l : List Ent} (h : Good l) : Good (del key l) := ⟨h.1.filter _, h.2.filter _⟩
theorem del_len (key : ByteArray) (l : List Ent) : (del key l).length ≤ l.length := List.length_filter_le _ _
theorem del_keys {key : ByteArray} {l : List Ent} : ∀ e ∈ del key l, e.1 ≠ key := fun e he h => by
  have := (List.mem_filter.1 he).2
  rw [isK_iff.2 h] at this
  cases this
theorem mem_put {c x : Ent} {l : List Ent} : x ∈ put c l ↔ x = c ∨ x ∈ l := by
  unfold put
  simp only [List.mem_append, List.mem_filter, List.mem_cons]
  cases h : snr x c <;> simp <;> constructor <;> intro h' <;> rcases h' with h' | h' <;> simp [h']
theorem put_length (c : Ent) (l : List Ent) : (put c l).length = l.length + 1 := by
  unfold put
  rw [List.length_append, List.length_cons, ← Nat.add_assoc, ← List.length_append]
  have := (List.filter_append_perm (fun x => snr x c) l).length_eq
  simpa using this
theorem key_inj : ∀ {l : List Ent} {a b : Ent}, l.Pairwise (fun x y => x.1 ≠ y.1) → a ∈ l → b ∈ l → a.1 = b.1 → a = b := by
  intro l
  induction l with
  | nil => intro a b _ ha; cases ha
  | cons d l ih =>
    intro a b hp ha hb e
    rw [List.pairwise_cons] at hp
    rcases List.mem_cons.1 ha with ha' | ha' <;> rcases List.mem_cons.1 hb with hb' | hb'
    · rw [ha', hb']
    · exact absurd (by rw [← ha']; exact e) (hp.1 b hb')
    · exact absurd (by rw [← hb']; exact e.symm) (hp.1 a ha')
    · exact ih hp.2 ha' hb' e
theorem good_put {c : Ent} {l : List Ent} (h : Good l) (hk : ∀ e ∈ l, e.1 ≠ c.1) : Good (put c l) := by
  unfold put
  constructor
  · rw [List.pairwise_append, List.pairwise_cons]
    refine ⟨h.1.filter _, ⟨fun e he => ?_, h.1.filter _⟩, fun a ha b hb => ?_⟩
    · obtain ⟨h1, h2⟩ := List.mem_filter.1 he
      have h2' : snr e c = false := by simpa using h2
      cases g : snr c e with
      | true => rfl
      | false => exact absurd (congrArg Prod.fst (snr_tot h2' g)) (hk e h1)
    · obtain ⟨h1, h2⟩ := List.mem_filter.1 ha
      rcases List.mem_cons.1 hb with rfl | hb
      · exact h2
      · obtain ⟨h3, h4⟩ := List.mem_filter.1 hb
        have h4' : snr b c = false := by simpa using h4
        cases g : snr c b with
        | true => exact snr_trans h2 g
        | false => exact absurd (congrArg Prod.fst (snr_tot h4' g)) (hk b h3)
  · rw [List.pairwise_append, List.pairwise_cons]
    refine ⟨h.2.filter _, ⟨fun e he => (hk e (List.mem_filter.1 he).1).symm, h.2.filter _⟩, fun a ha b hb => ?_⟩
    obtain ⟨h1, h2⟩ := List.mem_filter.1 ha
    rcases List.mem_cons.1 hb with rfl | hb
    · exact hk a h1
    · obtain ⟨h3, h4⟩ := List.mem_filter.1 hb
      intro e
      have : a = b := key_inj h.2 h1 h3 e
      rw [this, (by simpa using h4 : snr b c = false)] at h2
      cases h2
/-- a call of a pool has answered r, and left l' -/
def Did (w : World) (b m : Nat) (v : Value) (l' : List Ent) (r : Value) (e : Ending) (w' : World) : Prop :=
  e = .returned r ∧ ∃ v', Pl w' b v' m l' ∧ Fm (bl b v) w (bl b v') w'
theorem Did.after {w w1 w' : World} {b m : Nat} {v v1 : Value} {l' : List Ent} {r : Value} {e : Ending} (h : Did w1 b m v1 l' r e w') (g : Fm (bl b v) w (bl b v1) w1) : Did w b m v l' r e w' := by
  obtain ⟨h1, v', h2, h3⟩ := h
  exact ⟨h1, v', h2, g.trans h3⟩
set_option maxHeartbeats 1000000 in
theorem drop_any (w : World) (b m : Nat) (v : Value) (l : List Ent) (key : ByteArray) (h : Pl w b v m l) (hg : Good l) (hn : l.length ≤ 100000) :
    Calls Tryz.prog 47 #[.pointer (some ⟨b, 0, none⟩), .string key] w fun e w' => Did w b m v (del key l) (.bool (has key l)) e w' := by
  obtain ⟨W1, hW1⟩ : ∃ W1, w.alloc (.cells #[.string key] 9) = W1 := ⟨_, rfl⟩
  have hb1 : Below w.heap.size w W1 := by rw [← hW1]; exact (Below.refl _ w).alloc (Nat.le_refl _) _
  have g1 : W1.heap[w.heap.size]? = some (.cells #[.string key] 9 (0, 0)) := by rw [← hW1]; exact heap_alloc_new _ _
  have h1 : Pl W1 b v m l := h.bel hb1
  have mX := index_any W1 v l key w.heap.size h1.2.1 (by simp [World.cell?, g1]) (by omega)
  obtain ⟨_, k1, _⟩ := h1.cells
  have MX := keep mX
  have HP : Kept (∀ w2, Below W1.heap.size W1 w2 → Pl w2 b v m l ∧ Fm (bl b v) w (bl b v) w2) := fun w2 hb => ⟨h1.bel hb, (Fm.below hb1).trans (Fm.below hb)⟩
  have HG := keep hg
  have HN := keep hn
  clear h h1 hb1 g1 mX hg hn
  go_enter Tryz.func47, Tryz.ntmps47
  go_wp2_with fail
  refine MX.out.mono ?_
  rintro _ w2 ⟨⟨r, rfl, hf⟩, hb2⟩
  have HP2 := keep (HP.out w2 hb2)
  clear HP MX hb2
  rcases hf with ⟨rfl, hne⟩ | ⟨p, x, rfl, hp⟩
  · have HD : Kept (Did w b m v (del key l) (.bool (has key l)) (.returned (.bool false)) w2) := by
      rw [del_none hne, has_none hne]
      exact ⟨rfl, v, HP2.out.1, HP2.out.2⟩
    clear hne HP2
    go_wp2
    first | exact HD.out | (go_ret; exact HD.out)
  · have mT := takeOut_any w2 b m p v l (key, x) HP2.out.1 hp HN.out
    have HD : Kept (∀ w3, (∃ v', Pl w3 b v' m (l.take p ++ l.drop (p + 1)) ∧ Fm (bl b v) w2 (bl b v') w3) → Did w b m v (del key l) (.bool (has key l)) (.returned (.bool true)) w3) := by
      rintro w3 ⟨v', hp3, hf3⟩
      rw [has_at hp]
      rw [del_at HG.out.2 hp] at hp3
      exact ⟨rfl, v', hp3, HP2.out.2.trans hf3⟩
    have MT := keep mT
    have hlt : ¬ (p : Int) < 0 := by omega
    have hlt' : decide ((p : Int) < 0) = false := decide_eq_false hlt
    clear mT hp HP2 HN HG
    go_wp2_with fail
    refine MT.out.mono ?_
    rintro _ w3 ⟨rfl, hh⟩
    have HH := keep (HD.out w3 hh)
    clear hh HD MT
    go_wp2
    first | exact HH.out | (go_ret; exact HH.out)
set_option maxHeartbeats 1000000 in
theorem cands_any (w : World) (b m : Nat) (v : Value) (l : List Ent) (h : Pl w b v m l) (hn : l.length ≤ 100000) :
    Calls Tryz.prog 27 #[.pointer (some ⟨b, 0, none⟩)] w fun e w' => Cpy w l e w' := by
  obtain ⟨k0, k1, k2⟩ := h.cells
  have MC := keep (clone_any w v l h.2.1 (by omega))
  clear h hn
  go_enter Tryz.func27, Tryz.ntmps27
  go_wp2_with fail
  refine MC.out.mono ?_
  rintro _ w2 ⟨u, rfl, h1⟩
  have H1 := keep h1
  clear h1 MC
  go_wp2
  go_ret
  exact ⟨u, rfl, H1.out⟩
theorem results_ct {P : Program} {fn : Func} {p u : Tmp} {ty : TypeId} (h : fn.results = #[.cell p ty, .tmp u]) (tmps : Array Value) (w : World) (g : Nat) (t : TypeId) (cs : Array Value) (fr : Nat × Nat) (d : TypeDesc)
    (hp : tmps.getD p undef = .pointer (some ⟨g, 0, none⟩)) (hg : w.heap[g]? = some (.cells cs t fr))
    (hu : P.underlying ty = some d) (hd : (match d with | .struct _ | .array _ _ => true | _ => false) = true) (hi : (P.info? ty).map (·.size) = some cs.size) :
    (results fn tmps).run P w = .ok (.tuple #[.agg cs, tmps.getD u undef]) w := by
  rw [results_cell_tmp h, hp]
  simp [asAddr, run_loadVar_row w g t ty cs fr d hg hu hd hi]
/-- two cells of a block are written -/
theorem two_set {w W : World} {H : Nat} {a0 a1 u0 u1 : Value} {t : TypeId} (hg : w.heap[H]? = some (.cells #[a0, a1] t (0, 0))) (hW : (w.setCell ⟨H, 0, none⟩ u0).setCell ⟨H, 1, none⟩ u1 = W) :
    W.heap[H]? = some (.cells #[u0, u1] t (0, 0)) ∧ Only H w W := by
  constructor
  · rw [← hW, cells_set (cells_set hg)]; rfl
  · rw [← hW]; exact ((Only.refl H w).setCell 0 _).setCell 1 _
theorem Only.fm {H : Nat} {w W : World} {M : List Nat} {w0 : World} (h : Only H w W) (hH : w0.heap.size ≤ H) (M' : List Nat) (hf : Fm M w0 M' w) : Fm M w0 M' W := by
  refine ⟨⟨h.1.1.trans hf.1.1, h.1.2.1.trans hf.1.2.1, h.1.2.2.trans hf.1.2.2⟩, by rw [h.2.1]; exact hf.2.1, fun k hk hnm => ⟨(h.2.2 k (by omega)).trans (hf.2.2 k hk hnm).1, (hf.2.2 k hk hnm).2⟩⟩
theorem Fm.keeps {M M' : List Nat} {w w' : World} (h : Fm M w M' w') {k : Nat} (hk : k < w.heap.size) (hn : k ∉ M) : w'.heap[k]? = w.heap[k]? ∧ k ∉ M' := h.2.2 k hk hn
/-- what Take answers: the first, or none -/
def fstV (l : List Ent) : Value := match l with | [] => .tuple #[.agg #[.string { data := #[] }, .int .u64 0], .bool false] | x :: _ => .tuple #[.agg #[.string x.1, .int .u64 x.2], .bool true]
set_option maxHeartbeats 1000000 in
theorem take_nil (w : World) (b m : Nat) (v : Value) (h : Pl w b v m []) :
    Calls Tryz.prog 19 #[.pointer (some ⟨b, 0, none⟩)] w fun e w' => Did w b m v [] (.tuple #[.agg #[.string { data := #[] }, .int .u64 0], .bool false]) e w' := by
  obtain ⟨W1, hW1⟩ : ∃ W1, w.alloc (.cells #[.string { data := #[] }, .int .u64 0] 65) = W1 := ⟨_, rfl⟩
  have hb1 : Below w.heap.size w W1 := by rw [← hW1]; exact (Below.refl _ w).alloc (Nat.le_refl _) _
  have g1 : W1.heap[w.heap.size]? = some (.cells #[.string { data := #[] }, .int .u64 0] 65 (0, 0)) := by rw [← hW1]; exact heap_alloc_new _ _
  have h1 := h.bel hb1
  obtain ⟨k0, k1, k2⟩ := h1.cells
  obtain ⟨ao, n, c, rfl⟩ := h.2.1.slice
  have hn0 : n = 0 := by
    rcases h.2.1.form with ⟨e, _⟩ | ⟨g, c', e, _⟩ <;> · injection e
  subst hn0
  obtain ⟨c0, c1, c2⟩ := cells_two g1
  obtain ⟨W5, hW5⟩ : ∃ W5, (W1.setCell ⟨w.heap.size, 0, none⟩ (.string { data := #[] })).setCell ⟨w.heap.size, 1, none⟩ (.int .u64 0) = W5 := ⟨_, rfl⟩
  obtain ⟨g5, o5⟩ := two_set g1 hW5
  have hd : Did w b m (.slice ao 0 c) [] (.tuple #[.agg #[.string { data := #[] }, .int .u64 0], .bool false]) (.returned (.tuple #[.agg #[.string { data := #[] }, .int .u64 0], .bool false])) W5 :=
    ⟨rfl, .slice ao 0 c, h1.kept (fun k hk => o5.2.2 k (by have := h.lt k hk; omega)), o5.fm (Nat.le_refl _) _ (Fm.below hb1)⟩
  have HD := keep hd
  have G5 := keep g5
  clear h h1 g1 hb1 g5 o5 hd
  go_enter Tryz.func19, Tryz.ntmps19
  go_wp2
  refine bodyPost_ret (results_ct rfl _ W5 w.heap.size 65 #[.string { data := #[] }, .int .u64 0] (0, 0) _ rfl G5.out Tryz.underlying65 rfl size_cd) rfl ?_
  exact HD.out
set_option maxHeartbeats 1000000 in
theorem take_cons (w : World) (b m : Nat) (v : Value) (x : Ent) (l : List Ent) (h : Pl w b v m (x :: l)) (hn : (x :: l).length ≤ 100000) :
    Calls Tryz.prog 19 #[.pointer (some ⟨b, 0, none⟩)] w fun e w' => Did w b m v l (.tuple #[.agg #[.string x.1, .int .u64 x.2], .bool true]) e w' := by
  obtain ⟨W1, hW1⟩ : ∃ W1, w.alloc (.cells #[.string { data := #[] }, .int .u64 0] 65) = W1 := ⟨_, rfl⟩
  have hb1 : Below w.heap.size w W1 := by rw [← hW1]; exact (Below.refl _ w).alloc (Nat.le_refl _) _
  have hs1 : W1.heap.size = w.heap.size + 1 := by rw [← hW1]; simp
  have g1 : W1.heap[w.heap.size]? = some (.cells #[.string { data := #[] }, .int .u64 0] 65 (0, 0)) := by rw [← hW1]; exact heap_alloc_new _ _
  have h1 := h.bel hb1
  obtain ⟨k0, k1, k2⟩ := h1.cells
  have mT := takeOut_any W1 b m 0 v (x :: l) x h1 rfl hn
  rcases h.2.1.form with ⟨_, e⟩ | ⟨g, c, rfl, _⟩
  · cases e
  obtain ⟨n, hln⟩ : ∃ n, (x :: l).length = n := ⟨_, rfl⟩
  have hn0 : ¬ (n : Int) = 0 := by rw [← hln, List.length_cons]; omega
  have hn1 : ((n : Int) == 0) = false := beq_eq_false_iff_ne.2 hn0
  have hn2 : ¬ n = 0 := by omega
  rw [hln] at k1
  have HP : Kept (∀ w2 W5, (∃ v', Pl w2 b v' m ((x :: l).take 0 ++ (x :: l).drop (0 + 1)) ∧ Fm (bl b (.slice (some ⟨g, 0, none⟩) (x :: l).length c)) W1 (bl b v') w2) →
      w2.heap[w.heap.size]? = some (.cells #[.string { data := #[] }, .int .u64 0] 65 (0, 0)) ∧ ((w2.setCell ⟨w.heap.size, 0, none⟩ (.string x.1)).setCell ⟨w.heap.size, 1, none⟩ (.int .u64 x.2) = W5 →
      W5.heap[w.heap.size]? = some (.cells #[.string x.1, .int .u64 x.2] 65 (0, 0)) ∧ Did w b m (.slice (some ⟨g, 0, none⟩) (x :: l).length c) l (.tuple #[.agg #[.string x.1, .int .u64 x.2], .bool true]) (.returned (.tuple #[.agg #[.string x.1, .int .u64 x.2], .bool true])) W5)) := by
    rintro w2 W5 ⟨v', hp, hf⟩
    have hH : w.heap.size ∉ bl b (.slice (some ⟨g, 0, none⟩) (x :: l).length c) := fun hk => by have := h.lt _ hk; omega
    obtain ⟨e1, e2⟩ := hf.keeps (k := w.heap.size) (by omega) hH
    have g2 := e1.trans g1
    refine ⟨g2, fun hW5 => ?_⟩
    obtain ⟨g5, o5⟩ := two_set g2 hW5
    exact ⟨g5, rfl, v', Pl.kept hp (fun k hk => o5.2.2 k (fun e => e2 (by rw [← e]; exact hk))), o5.fm (Nat.le_refl _) _ ((Fm.below hb1).trans hf)⟩
  obtain ⟨x1, x2⟩ := x
  rw [hln] at *
  unfold agE at *
  dsimp only at *
  have MT := keep mT
  clear h h1 g1 hb1 mT hs1 hn hln
  go_enter Tryz.func19, Tryz.ntmps19
  go_wp2_with fail
  refine MT.out.mono ?_
  rintro _ w2 ⟨rfl, hh⟩
  obtain ⟨W5, hW5⟩ : ∃ W5, (w2.setCell ⟨w.heap.size, 0, none⟩ (.string x1)).setCell ⟨w.heap.size, 1, none⟩ (.int .u64 x2) = W5 := ⟨_, rfl⟩
  obtain ⟨g2, r2⟩ := HP.out w2 W5 hh
  obtain ⟨c0, c1, c2⟩ := cells_two g2
  have R2 := keep (r2 hW5)
  clear g2 r2 hh HP MT
  go_wp2
  refine bodyPost_ret (results_ct rfl _ W5 w.heap.size 65 #[.string x1, .int .u64 x2] (0, 0) _ rfl R2.out.1 Tryz.underlying65 rfl size_cd) rfl ?_
  exact R2.out.2
theorem take_any (w : World) (b m : Nat) (v : Value) (l : List Ent) (h : Pl w b v m l) (hn : l.length ≤ 100000) :
    Calls Tryz.prog 19 #[.pointer (some ⟨b, 0, none⟩)] w fun e w' => Did w b m v l.tail (fstV l) e w' := by
  cases l with
  | nil => exact take_nil w b m v h
  | cons x l => exact take_cons w b m v x l h hn
end Go.Proofs.YthmmblohfjmbcaaGreat.DV
