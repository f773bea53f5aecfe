/-
  Contracts over this program, put together.
-/
import Derived.Test.YtmgeaanbgjbkcaaGreatMA
import Derived.Test.YtmgeaanbgjbkcaaGreatMSd
import Derived.Test.YtmgeaanbgjbkcaaGreatMUd
import Derived.Test.YtmgeaanbgjbkcaaGreatMFf
import Derived.Test.YtmgeaanbgjbkcaaGreatMQa
import Derived.Test.YtmgeaanbgjbkcaaGreatMVb
set_option maxHeartbeats 8000000
namespace Go.Proofs.YtmgeaanbgjbkcaaGreat
open Go.RowKit
set_option linter.unusedVariables false
namespace Vl
theorem perm_keys {V : Type} {l m : List (ByteArray × V)} (hl : (Dc.keys l).Nodup) (hm : (Dc.keys m).Nodup) (h : ∀ e, e ∈ l ↔ e ∈ m) : l.Perm m := by
  have n1 : l.Nodup := List.Pairwise.of_map Prod.fst (fun a b hab e => hab (by rw [e])) hl
  have n2 : m.Nodup := List.Pairwise.of_map Prod.fst (fun a b hab e => hab (by rw [e])) hm
  exact (List.perm_ext_iff_of_nodup n1 n2).2 h
theorem keys_snoc {V : Type} {l : List (ByteArray × V)} {k : ByteArray} {v : V} (h : (Dc.keys l).Nodup) (hk : k ∉ Dc.keys l) : (Dc.keys (l ++ [(k, v)])).Nodup := by
  unfold Dc.keys at *
  rw [List.map_append, List.nodup_append]
  refine ⟨h, by simp, fun a ha b hb => ?_⟩
  simp at hb
  subst hb
  exact fun e => hk (e ▸ ha)
theorem all_set {V : Type} {h : ByteArray → Nat} {s s' : Dc.St ByteArray V} {l : List (ByteArray × V)} {k : ByteArray} {v : V} (hI : Dc.Inv h s) (hI' : Dc.Inv h s') (hp : (Dc.all s).Perm l) (hk : k ∉ Dc.keys l)
    (hs : ∀ x, Dc.look x (Dc.all s') = if x = k then some v else Dc.look x (Dc.all s)) : (Dc.all s').Perm (l ++ [(k, v)]) := by
  have n0 : (Dc.keys (Dc.all s)).Nodup := by rw [Dc.all_eq hI]; exact hI.nodup
  have n1 : (Dc.keys (Dc.all s')).Nodup := by rw [Dc.all_eq hI']; exact hI'.nodup
  have nl : (Dc.keys l).Nodup := (Dc.keys_perm hp).nodup_iff.1 n0
  refine perm_keys n1 (keys_snoc nl hk) (fun e => ?_)
  obtain ⟨a, b⟩ := e
  rw [← Dc.look_mem n1 a b, hs a]
  by_cases ha : a = k
  · subst ha
    rw [if_pos rfl]
    constructor
    · intro h; cases h; simp
    · intro h
      rcases List.mem_append.1 h with h | h
      · exact absurd (List.mem_map_of_mem (f := Prod.fst) h) hk
      · simp at h; rw [h]
  · rw [if_neg ha, Dc.look_mem n0 a b, hp.mem_iff]
    constructor
    · intro h; exact List.mem_append_left _ h
    · intro h
      rcases List.mem_append.1 h with h | h
      · exact h
      · simp at h; exact absurd h.1 ha
theorem look_none_perm {V : Type} {h : ByteArray → Nat} {s : Dc.St ByteArray V} {l : List (ByteArray × V)} {k : ByteArray} (hp : (Dc.all s).Perm l) (hk : k ∉ Dc.keys l) : Dc.look k (Dc.all s) = none :=
  (Dc.look_none k).2 (fun h => hk ((Dc.keys_perm hp).mem_iff.1 h))
def OnL (W : World) (o : Nat) (l : List ByteArray) (w : World) : Prop := ∃ cs, DQ.Dq w o cs ∧ DQ.row cs = l ∧ (∀ k, DQ.OwD o cs k → W.heap.size ≤ k) ∧ Below W.heap.size W w
theorem onl_new (W w1 : World) (hb : Below W.heap.size W w1) : Calls Tryz.prog 72 #[] w1 fun e w' => ∃ o, e = .returned (.pointer (some ⟨o, 0, none⟩)) ∧ OnL W o [] w' := by
  refine (DQ.new_any w1).mono ?_
  rintro _ w2 ⟨rfl, d2, b2, _⟩
  have hz := hb.size
  refine ⟨_, rfl, [], d2, rfl, ?_, hb.trans (b2.mono hz)⟩
  rintro k (e | ⟨x, hx, _⟩)
  · omega
  · cases hx
theorem onl_push {W : World} {o : Nat} {l : List ByteArray} {w : World} (h : OnL W o l w) (s : ByteArray) (hs : s.size ≤ 1048576) (hn : l.length < 1048576) :
    Calls Tryz.prog 83 #[.pointer (some ⟨o, 0, none⟩), .bool false, .string s] w fun e w' => e = .returned (.int .i64 0) ∧ OnL W o (l ++ [s]) w' := by
  obtain ⟨cs, h1, h2, h3, h4⟩ := h
  refine (DQ.push_behind w o cs s h1 hs (by rw [h2]; exact hn)).mono ?_
  rintro _ w' ⟨rfl, cs', g1, g2, g3⟩
  have hz := h4.size
  refine ⟨rfl, cs', g1, by rw [DQ.row_tx, g3, DQ.pushB_flat, ← DQ.row_tx, h2], fun k hk => ?_, h4.trans (g2.below hz fun k hk e => ?_)⟩
  · rcases g2.2 k hk with e | e
    · exact h3 k e
    · omega
  · have := h3 k e; omega
def OnR (W : World) (o : Nat) (l : List (ByteArray × ByteArray)) (w : World) : Prop :=
  ∃ h r b seed s, DS.HashIs seed h ∧ DS.Rec h l.length w r o b seed s ∧ (Dc.all s).Perm l ∧ (∀ k, DS.rr r o k ≠ (0, 0) → W.heap.size ≤ k) ∧ Below W.heap.size W w
theorem onr_new (W w1 : World) (hb : Below W.heap.size W w1) (seed : Nat) (hsd : seed < Dw.M) : Calls Tryz.prog 73 #[.int .u64 seed] w1 fun e w' => ∃ o, e = .returned (.pointer (some ⟨o, 0, none⟩)) ∧ OnR W o [] w' := by
  refine (DS.rnew_any (DS.hs seed) w1 seed 0).mono ?_
  rintro _ w2 ⟨rfl, b2, hr⟩
  have hz := hb.size
  refine ⟨_, rfl, _, _, _, seed, _, DS.hs_is seed hsd, hr, .refl _, fun k hk => ?_, hb.trans (b2.mono hz)⟩
  unfold DS.rr at hk
  split at hk
  · omega
  · dsimp only at hk
    split at hk
    · omega
    · exact absurd rfl hk
theorem onr_set {W : World} {o : Nat} {l : List (ByteArray × ByteArray)} {w : World} (h : OnR W o l w) (f v : ByteArray) (hf : f.size ≤ 1048576) (hv : v.size ≤ 1048576) (hn : l.length < 1048576) (hk : f ∉ Dc.keys l) :
    Calls Tryz.prog 86 #[.pointer (some ⟨o, 0, none⟩), .string f, .string v] w fun e w' => (∃ t, e = .returned (.tuple #[t, .int .i64 0])) ∧ OnR W o (l ++ [(f, v)]) w' := by
  obtain ⟨h, r, b, seed, s, hH, h1, h2, h3, h4⟩ := h
  refine (DS.rset_ok hH h1 (by omega) f v hf hv (fun _ => by rw [show DS.ln s = l.length from h2.length_eq]; exact hn)).mono ?_
  rintro _ w' ⟨rfl, r', s', g1, g2, g3⟩
  have hz := h4.size
  refine ⟨⟨_, rfl⟩, h, r', b, seed, s', hH, by rw [List.length_append]; exact g1, all_set h1.1.2.1 g1.1.2.1 h2 hk g2.1, fun k hk' => ?_, h4.trans (g3.below hz fun k hk' => ?_)⟩
  · rcases Nat.lt_or_ge k W.heap.size with hlt | hge
    · refine absurd ((g3.2.2 k (by omega) ?_).2) hk'
      rcases Decidable.em (DS.rr r o k = (0, 0)) with e | e
      · exact e
      · have := h3 k e; omega
    · exact hge
  · rcases Decidable.em (DS.rr r o k = (0, 0)) with e | e
    · exact e
    · have := h3 k e; omega
def OnF (W : World) (o : Nat) (l : List (ByteArray × Unit)) (w : World) : Prop :=
  ∃ h r b seed s, DU.HashIs seed h ∧ DU.Rec h l.length w r o b seed s ∧ (Dc.all s).Perm l ∧ (∀ k, DU.rr r o k ≠ (0, 0) → W.heap.size ≤ k) ∧ Below W.heap.size W w
theorem onf_new (W w1 : World) (hb : Below W.heap.size W w1) (seed : Nat) (hsd : seed < Dw.M) : Calls Tryz.prog 74 #[.int .u64 seed] w1 fun e w' => ∃ o, e = .returned (.pointer (some ⟨o, 0, none⟩)) ∧ OnF W o [] w' := by
  refine (DU.rnew_any (DU.hs seed) w1 seed 0).mono ?_
  rintro _ w2 ⟨rfl, b2, hr⟩
  have hz := hb.size
  refine ⟨_, rfl, _, _, _, seed, _, DU.hs_is seed hsd, hr, .refl _, fun k hk => ?_, hb.trans (b2.mono hz)⟩
  unfold DU.rr at hk
  split at hk
  · omega
  · dsimp only at hk
    split at hk
    · omega
    · exact absurd rfl hk
theorem onf_add {W : World} {o : Nat} {l : List (ByteArray × Unit)} {w : World} (h : OnF W o l w) (f : ByteArray) (hf : f.size ≤ 1048576) (hn : l.length < 1048576) (hk : f ∉ Dc.keys l) :
    Calls Tryz.prog 89 #[.pointer (some ⟨o, 0, none⟩), .string f] w fun e w' => (∃ t, e = .returned (.tuple #[t, .int .i64 0])) ∧ OnF W o (l ++ [(f, ())]) w' := by
  obtain ⟨h, r, b, seed, s, hH, h1, h2, h3, h4⟩ := h
  refine (DU.fadd_new hH h1 (by omega) f hf (look_none_perm (h := h) h2 hk) (by rw [show DU.ln s = l.length from h2.length_eq]; exact hn)).mono ?_
  rintro _ w' ⟨rfl, r', s', g1, g2, g3⟩
  have hz := h4.size
  refine ⟨⟨_, rfl⟩, h, r', b, seed, s', hH, by rw [List.length_append]; exact g1, all_set h1.1.2.1 g1.1.2.1 h2 hk g2.1, fun k hk' => ?_, h4.trans (g3.below hz fun k hk' => ?_)⟩
  · rcases Nat.lt_or_ge k W.heap.size with hlt | hge
    · refine absurd ((g3.2.2 k (by omega) ?_).2) hk'
      rcases Decidable.em (DU.rr r o k = (0, 0)) with e | e
      · exact e
      · have := h3 k e; omega
    · exact hge
  · rcases Decidable.em (DU.rr r o k = (0, 0)) with e | e
    · exact e
    · have := h3 k e; omega
def OnK (W : World) (o : Nat) (l : List (ByteArray × Nat)) (w : World) : Prop :=
  ∃ O seed L, DF.RK w O o seed L ∧ L.Perm l ∧ (∀ k, O k → W.heap.size ≤ k) ∧ Below W.heap.size W w
theorem fo_bel {O O' : Nat → Prop} {w w' : World} {B : Nat} (h : DF.FO O w O' w') (hO : ∀ k, O k → B ≤ k) (hB : B ≤ w.heap.size) : Below B w w' ∧ ∀ k, O' k → B ≤ k := by
  have hn : ∀ k, k < B → ¬ O k := fun k hk hh => by have := hO k hh; omega
  refine ⟨⟨h.1.1, h.1.2.1, h.1.2.2, h.2.1, fun k hk => (h.2.2 k (by omega) (hn k hk)).1⟩, fun k hk => ?_⟩
  rcases Nat.lt_or_ge k B with hlt | hge
  · exact absurd hk (h.2.2 k (by omega) (hn k hlt)).2
  · exact hge
theorem onk_new (W w1 : World) (hb : Below W.heap.size W w1) (seed : Nat) (hsd : seed < Dw.M) : Calls Tryz.prog 75 #[.int .u64 seed] w1 fun e w' => ∃ o, e = .returned (.pointer (some ⟨o, 0, none⟩)) ∧ OnK W o [] w' := by
  refine (DF.knew_any w1 seed hsd).mono ?_
  rintro _ w2 ⟨⟨R, O, rfl, hK, hO⟩, b2⟩
  have hz := hb.size
  exact ⟨_, rfl, O, seed, [], hK, .refl _, fun k hk => Nat.le_trans hz (hO k hk), hb.trans (b2.mono hz)⟩
theorem onk_set {W : World} {o : Nat} {l : List (ByteArray × Nat)} {w : World} (h : OnK W o l w) (f : ByteArray) (x : Nat) (hf : f.size ≤ 1048576) (hx : isNan x = false) (hn : l.length < 1048576) (hk : f ∉ Dc.keys l) :
    Calls Tryz.prog 92 #[.pointer (some ⟨o, 0, none⟩), .string f, .float .f64 x] w fun e w' => (∃ t, e = .returned (.tuple #[t, .int .i64 0])) ∧ OnK W o (l ++ [(f, x)]) w' := by
  obtain ⟨O, seed, L, h1, h2, h3, h4⟩ := h
  have hno : f ∉ Dc.keys L := fun e => hk ((Dc.keys_perm h2).mem_iff.1 e)
  refine (DF.kset_new h1 f x hf hx ((Dc.look_none f).2 hno) (by rw [h2.length_eq]; exact hn)).mono ?_
  rintro _ w' ⟨rfl, O', L', g1, g2, g3⟩
  have hz := h4.size
  obtain ⟨q1, q2⟩ := fo_bel g3 h3 hz
  have nl : (Dc.keys l).Nodup := (Dc.keys_perm h2).nodup_iff.1 h1.math.2.2.2
  refine ⟨⟨_, rfl⟩, O', seed, L', g2, perm_keys g2.math.2.2.2 (keys_snoc nl hk) (fun e => ?_), q2, h4.trans q1⟩
  rw [g1 e, List.mem_append, h2.mem_iff]
  constructor
  · rintro (rfl | ⟨h, _⟩)
    · exact .inr (by simp)
    · exact .inl h
  · rintro (h | h)
    · exact .inr ⟨h, fun e' => hk (e' ▸ List.mem_map_of_mem (f := Prod.fst) h)⟩
    · exact .inl (by simpa using h)
end Vl
end Go.Proofs.YtmgeaanbgjbkcaaGreat

namespace Go.Proofs.YtmgeaanbgjbkcaaGreat
open Go.RowKit Go.Shelf
set_option linter.unusedVariables false
set_option linter.unusedSimpArgs false
set_option maxRecDepth 100000
namespace Vl
theorem OnL.bel {W w w' : World} {o : Nat} {l : List ByteArray} (h : OnL W o l w) (hb : Below w.heap.size w w') : OnL W o l w' := by
  obtain ⟨cs, h1, h2, h3, h4⟩ := h
  exact ⟨cs, h1.below hb, h2, h3, h4.trans (hb.mono h4.size)⟩
theorem OnR.bel {W w w' : World} {o : Nat} {l : List (ByteArray × ByteArray)} (h : OnR W o l w) (hb : Below w.heap.size w w') : OnR W o l w' := by
  obtain ⟨h, r, b, seed, s, hH, h1, h2, h3, h4⟩ := h
  exact ⟨h, r, b, seed, s, hH, h1.below hb, h2, h3, h4.trans (hb.mono h4.size)⟩
theorem OnF.bel {W w w' : World} {o : Nat} {l : List (ByteArray × Unit)} (h : OnF W o l w) (hb : Below w.heap.size w w') : OnF W o l w' := by
  obtain ⟨h, r, b, seed, s, hH, h1, h2, h3, h4⟩ := h
  exact ⟨h, r, b, seed, s, hH, h1.below hb, h2, h3, h4.trans (hb.mono h4.size)⟩
theorem OnK.bel {W w w' : World} {o : Nat} {l : List (ByteArray × Nat)} (h : OnK W o l w) (hb : Below w.heap.size w w') : OnK W o l w' := by
  obtain ⟨O, seed, L, h1, h2, h3, h4⟩ := h
  exact ⟨O, seed, L, h1.below hb, h2, h3, h4.trans (hb.mono h4.size)⟩
theorem OnL.base {W w : World} {o : Nat} {l : List ByteArray} (h : OnL W o l w) : Below W.heap.size W w := by obtain ⟨_, _, _, _, h⟩ := h; exact h
theorem OnR.base {W w : World} {o : Nat} {l : List (ByteArray × ByteArray)} (h : OnR W o l w) : Below W.heap.size W w := by obtain ⟨_, _, _, _, _, _, _, _, _, h⟩ := h; exact h
theorem OnF.base {W w : World} {o : Nat} {l : List (ByteArray × Unit)} (h : OnF W o l w) : Below W.heap.size W w := by obtain ⟨_, _, _, _, _, _, _, _, _, h⟩ := h; exact h
theorem OnK.base {W w : World} {o : Nat} {l : List (ByteArray × Nat)} (h : OnK W o l w) : Below W.heap.size W w := by obtain ⟨_, _, _, _, _, _, h⟩ := h; exact h
def un (l : List ByteArray) : List (ByteArray × Unit) := l.map fun x => (x, ())
theorem keys_un (l : List ByteArray) : Dc.keys (un l) = l := by unfold Dc.keys un; rw [List.map_map]; exact List.map_id' l
def Val (w : World) (b : Nat) (d : Dt) : Prop :=
  (d.kind = 1 ∧ Hol w b 121 (.string d.text)) ∨
  (d.kind = 2 ∧ ∃ o W, Hol w b 124 (.agg #[.pointer (some ⟨o, 0, none⟩)]) ∧ OnL W o d.items w) ∨
  (d.kind = 3 ∧ ∃ o W, Hol w b 127 (.agg #[.pointer (some ⟨o, 0, none⟩)]) ∧ OnR W o d.pairs w) ∨
  (d.kind = 4 ∧ ∃ o W, Hol w b 130 (.agg #[.pointer (some ⟨o, 0, none⟩)]) ∧ OnF W o (un d.items) w) ∨
  (d.kind = 5 ∧ ∃ o W, Hol w b 133 (.agg #[.pointer (some ⟨o, 0, none⟩)]) ∧ OnK W o d.ranks w)
theorem Val.bel {w w' : World} {b : Nat} {d : Dt} (h : Val w b d) (hb : Below w.heap.size w w') : Val w' b d := by
  rcases h with ⟨h1, h2⟩ | ⟨h1, o, W, h2, h3⟩ | ⟨h1, o, W, h2, h3⟩ | ⟨h1, o, W, h2, h3⟩ | ⟨h1, o, W, h2, h3⟩
  · exact .inl ⟨h1, h2.bel hb⟩
  · exact .inr (.inl ⟨h1, o, W, h2.bel hb, h3.bel hb⟩)
  · exact .inr (.inr (.inl ⟨h1, o, W, h2.bel hb, h3.bel hb⟩))
  · exact .inr (.inr (.inr (.inl ⟨h1, o, W, h2.bel hb, h3.bel hb⟩)))
  · exact .inr (.inr (.inr (.inr ⟨h1, o, W, h2.bel hb, h3.bel hb⟩)))
theorem nodup_at {α : Type} {f : α → ByteArray} {l : List α} (hn : (l.map f).Nodup) {k : Nat} {x : α} (hx : l[k]? = some x) : f x ∉ (l.take k).map f := by
  intro hm
  have e : (l.map f)[k]? = some (f x) := by rw [List.getElem?_map, hx]; rfl
  have h2 : ((l.map f).take (k + 1)).Nodup := hn.sublist (List.take_sublist _ _)
  rw [List.take_add_one, e, List.nodup_append] at h2
  refine h2.2.2 (f x) ?_ (f x) (by simp) rfl
  rw [← List.map_take]; exact hm
theorem take_more {α : Type} {l : List α} {k : Nat} {x : α} (hx : l[k]? = some x) : l.take (k + 1) = l.take k ++ [x] := by
  rw [List.take_add_one, hx]; rfl
theorem hold_list (w : World) (o : Nat) : Calls Tryz.prog 23 #[.pointer (some ⟨o, 0, none⟩)] w fun e w' => e = .returned (.pointer (some ⟨w.heap.size, 0, none⟩)) ∧ Hol w' w.heap.size 124 (.agg #[.pointer (some ⟨o, 0, none⟩)]) ∧ Below w.heap.size w w' := by
  go_enter Tryz.func23, Tryz.ntmps23
  go_wp2
  go_ret
  exact ⟨rfl, heap_alloc_new _ _, (Below.refl _ _).alloc (Nat.le_refl _) _⟩
theorem hold_fields (w : World) (o : Nat) : Calls Tryz.prog 25 #[.pointer (some ⟨o, 0, none⟩)] w fun e w' => e = .returned (.pointer (some ⟨w.heap.size, 0, none⟩)) ∧ Hol w' w.heap.size 127 (.agg #[.pointer (some ⟨o, 0, none⟩)]) ∧ Below w.heap.size w w' := by
  go_enter Tryz.func25, Tryz.ntmps25
  go_wp2
  go_ret
  exact ⟨rfl, heap_alloc_new _ _, (Below.refl _ _).alloc (Nat.le_refl _) _⟩
theorem hold_members (w : World) (o : Nat) : Calls Tryz.prog 27 #[.pointer (some ⟨o, 0, none⟩)] w fun e w' => e = .returned (.pointer (some ⟨w.heap.size, 0, none⟩)) ∧ Hol w' w.heap.size 130 (.agg #[.pointer (some ⟨o, 0, none⟩)]) ∧ Below w.heap.size w w' := by
  go_enter Tryz.func27, Tryz.ntmps27
  go_wp2
  go_ret
  exact ⟨rfl, heap_alloc_new _ _, (Below.refl _ _).alloc (Nat.le_refl _) _⟩
theorem hold_ranked (w : World) (o : Nat) : Calls Tryz.prog 29 #[.pointer (some ⟨o, 0, none⟩)] w fun e w' => e = .returned (.pointer (some ⟨w.heap.size, 0, none⟩)) ∧ Hol w' w.heap.size 133 (.agg #[.pointer (some ⟨o, 0, none⟩)]) ∧ Below w.heap.size w w' := by
  go_enter Tryz.func29, Tryz.ntmps29
  go_wp2
  go_ret
  exact ⟨rfl, heap_alloc_new _ _, (Below.refl _ _).alloc (Nat.le_refl _) _⟩
def Made (w : World) (d : Dt) (r : Ending) (w' : World) : Prop := ∃ b, r = .returned (.pointer (some ⟨b, 0, none⟩)) ∧ Val w' b d
theorem build_text (w : World) (V : Value) (d : Dt) (seed : Nat) (h : Pln w V d) (hok : Rfz d 0) (hsd : seed < Dw.M) (hkd : d.kind = 1) :
    Calls Tryz.prog 47 #[V, .int .u64 seed] w fun r w' => Made w d r w' ∧ Below w.heap.size w w' := by
  obtain ⟨hb0, hl0, hf0⟩ := hok.ok
  have hL0 : ∀ x ∈ d.items, x.size ≤ 1048576 := fun x hx => Nat.le_of_not_lt (fun e => hl0 (.inr (.inl ⟨x, hx, e⟩)))
  have hL1 : ∀ x ∈ d.pairs, x.1.size ≤ 1048576 ∧ x.2.size ≤ 1048576 := fun x hx => ⟨Nat.le_of_not_lt (fun e => hl0 (.inr (.inr (.inl ⟨x, hx, .inl e⟩)))), Nat.le_of_not_lt (fun e => hl0 (.inr (.inr (.inl ⟨x, hx, .inr e⟩))))⟩
  have hL2 : ∀ x ∈ d.ranks, x.1.size ≤ 1048576 := fun x hx => Nat.le_of_not_lt (fun e => hl0 (.inr (.inr (.inr ⟨x, hx, e⟩))))
  have hF0 : d.items.length ≤ 1048576 := Nat.le_of_not_lt (fun e => hf0 (.inl e))
  have hF1 : d.pairs.length ≤ 1048576 := Nat.le_of_not_lt (fun e => hf0 (.inr (.inl e)))
  have hF2 : d.ranks.length ≤ 1048576 := Nat.le_of_not_lt (fun e => hf0 (.inr (.inr e)))
  have hD0 : d.kind = 4 → d.items.Nodup := fun h4 => Classical.byContradiction (fun e => hb0 (.inr (.inl (.inl ⟨h4, e⟩))))
  have hD1 : (d.pairs.map Prod.fst).Nodup := Classical.byContradiction (fun e => hb0 (.inr (.inl (.inr (.inl e)))))
  have hD2 : (d.ranks.map Prod.fst).Nodup := Classical.byContradiction (fun e => hb0 (.inr (.inl (.inr (.inr e)))))
  have hN : ∀ x ∈ d.ranks, isNan x.2 = false := fun x hx => by
    cases e : isNan x.2
    · rfl
    · exact absurd (.inr (.inr ⟨x, hx, e⟩)) hb0
  obtain ⟨iv, pv, rv, rfl, a1, a2, a3⟩ := h
  obtain ⟨io, ic, hio⟩ := own_sl a1
  obtain ⟨po, pc, hpo⟩ := own_sl a2
  obtain ⟨ro, rc, hro⟩ := own_sl a3
  obtain ⟨W1, hW1⟩ : ∃ W1, w.alloc (.cells #[.int .i64 d.kind, .string d.text, iv, pv, rv] 30) = W1 := ⟨_, rfl⟩
  have hb1 : Below w.heap.size w W1 := by rw [← hW1]; exact (Below.refl _ w).alloc (Nat.le_refl _) _
  have g1 : Bx W1 w.heap.size d.kind d.text iv pv rv := by rw [← hW1]; exact heap_alloc_new _ _
  have A1 := keep (kept a1 hb1)
  have A2 := keep (kept a2 hb1)
  have A3 := keep (kept a3 hb1)
  subst hio hpo hro
  obtain ⟨kd, tx, is, ps, rs⟩ := d
  dsimp only at *
  unfold plV
  dsimp only
  subst hkd
  have HB1 := keep hb1
  have HW1 := keep hW1
  have G1 := keep g1
  have HL0 := keep hL0
  have HL1 := keep hL1
  have HL2 := keep hL2
  have HD0 := keep hD0
  have HD1 := keep hD1
  have HD2 := keep hD2
  have HN := keep hN
  have DN : Kept (∀ (b : Nat) (V' : World), Below W1.heap.size W1 V' → Val V' b ⟨1, tx, is, ps, rs⟩ → Made w ⟨1, tx, is, ps, rs⟩ (.returned (.pointer (some ⟨b, 0, none⟩))) V' ∧ Below w.heap.size w V') := fun b V' hb hv => ⟨⟨b, rfl, hv⟩, hb1.trans (hb.mono hb1.size)⟩
  clear hb0 hl0 hf0 a1 a2 a3 hb1 hW1 g1 hL0 hL1 hL2 hD0 hD1 hD2 hN hok
  obtain ⟨c0, c1, c2, c3, c4⟩ := five_cells G1.out
  go_enter Tryz.func47, Tryz.ntmps47
  go_wp2_with fail
  rw [HW1.out]
  refine (text_any _ _).mono ?_
  rintro _ V1 ⟨rfl, hv, hb⟩
  go_wp2
  go_ret
  exact DN.out _ _ hb (.inl ⟨rfl, hv⟩)
theorem build_list (w : World) (V : Value) (d : Dt) (seed : Nat) (h : Pln w V d) (hok : Rfz d 0) (hsd : seed < Dw.M) (hkd : d.kind = 2) :
    Calls Tryz.prog 47 #[V, .int .u64 seed] w fun r w' => Made w d r w' ∧ Below w.heap.size w w' := by
  obtain ⟨hb0, hl0, hf0⟩ := hok.ok
  have hL0 : ∀ x ∈ d.items, x.size ≤ 1048576 := fun x hx => Nat.le_of_not_lt (fun e => hl0 (.inr (.inl ⟨x, hx, e⟩)))
  have hL1 : ∀ x ∈ d.pairs, x.1.size ≤ 1048576 ∧ x.2.size ≤ 1048576 := fun x hx => ⟨Nat.le_of_not_lt (fun e => hl0 (.inr (.inr (.inl ⟨x, hx, .inl e⟩)))), Nat.le_of_not_lt (fun e => hl0 (.inr (.inr (.inl ⟨x, hx, .inr e⟩))))⟩
  have hL2 : ∀ x ∈ d.ranks, x.1.size ≤ 1048576 := fun x hx => Nat.le_of_not_lt (fun e => hl0 (.inr (.inr (.inr ⟨x, hx, e⟩))))
  have hF0 : d.items.length ≤ 1048576 := Nat.le_of_not_lt (fun e => hf0 (.inl e))
  have hF1 : d.pairs.length ≤ 1048576 := Nat.le_of_not_lt (fun e => hf0 (.inr (.inl e)))
  have hF2 : d.ranks.length ≤ 1048576 := Nat.le_of_not_lt (fun e => hf0 (.inr (.inr e)))
  have hD0 : d.kind = 4 → d.items.Nodup := fun h4 => Classical.byContradiction (fun e => hb0 (.inr (.inl (.inl ⟨h4, e⟩))))
  have hD1 : (d.pairs.map Prod.fst).Nodup := Classical.byContradiction (fun e => hb0 (.inr (.inl (.inr (.inl e)))))
  have hD2 : (d.ranks.map Prod.fst).Nodup := Classical.byContradiction (fun e => hb0 (.inr (.inl (.inr (.inr e)))))
  have hN : ∀ x ∈ d.ranks, isNan x.2 = false := fun x hx => by
    cases e : isNan x.2
    · rfl
    · exact absurd (.inr (.inr ⟨x, hx, e⟩)) hb0
  obtain ⟨iv, pv, rv, rfl, a1, a2, a3⟩ := h
  obtain ⟨io, ic, hio⟩ := own_sl a1
  obtain ⟨po, pc, hpo⟩ := own_sl a2
  obtain ⟨ro, rc, hro⟩ := own_sl a3
  obtain ⟨W1, hW1⟩ : ∃ W1, w.alloc (.cells #[.int .i64 d.kind, .string d.text, iv, pv, rv] 30) = W1 := ⟨_, rfl⟩
  have hb1 : Below w.heap.size w W1 := by rw [← hW1]; exact (Below.refl _ w).alloc (Nat.le_refl _) _
  have g1 : Bx W1 w.heap.size d.kind d.text iv pv rv := by rw [← hW1]; exact heap_alloc_new _ _
  have A1 := keep (kept a1 hb1)
  have A2 := keep (kept a2 hb1)
  have A3 := keep (kept a3 hb1)
  subst hio hpo hro
  obtain ⟨kd, tx, is, ps, rs⟩ := d
  dsimp only at *
  unfold plV
  dsimp only
  subst hkd
  have HB1 := keep hb1
  have HW1 := keep hW1
  have G1 := keep g1
  have HL0 := keep hL0
  have HL1 := keep hL1
  have HL2 := keep hL2
  have HD0 := keep hD0
  have HD1 := keep hD1
  have HD2 := keep hD2
  have HN := keep hN
  have DN : Kept (∀ (b : Nat) (V' : World), Below W1.heap.size W1 V' → Val V' b ⟨2, tx, is, ps, rs⟩ → Made w ⟨2, tx, is, ps, rs⟩ (.returned (.pointer (some ⟨b, 0, none⟩))) V' ∧ Below w.heap.size w V') := fun b V' hb hv => ⟨⟨b, rfl, hv⟩, hb1.trans (hb.mono hb1.size)⟩
  clear hb0 hl0 hf0 a1 a2 a3 hb1 hW1 g1 hL0 hL1 hL2 hD0 hD1 hD2 hN hok
  obtain ⟨c0, c1, c2, c3, c4⟩ := five_cells G1.out
  generalize hL : is.length = L at *
  have HL := keep hL
  have HA : Kept (It W1 (.slice io L ic) is) := by
    have := A1.out
    unfold It
    rw [hL]
    exact this
  generalize ps.length = n2 at *
  generalize rs.length = n3 at *
  clear hL
  go_enter Tryz.func47, Tryz.ntmps47
  go_wp2_with fail
  rw [HW1.out]
  refine (onl_new _ _ (Below.refl _ _)).mono ?_
  rintro _ V1 ⟨o, rfl, hO⟩
  have KO0 := keep hO
  have cc := (hO.base.cell (p := ⟨w.heap.size, 2, none⟩) (World.block_lt_of_cell? _ _ c2)).trans c2
  clear hO c0 c1 c2 c3 c4
  go_wp2_with fail
  clear cc
  go_loopw [30] (fun i wr => ∃ k : Nat, k ≤ L ∧ i = .int .i64 k ∧ Kept (OnL W1 o (is.take k) wr)) (fun i _ => L - (intOf i).toNat)
  case atStart => exact ⟨0, Nat.zero_le _, rfl, KO0.out⟩
  case round =>
    obtain ⟨k, hk, rfl, KO⟩ := hrel
    by_cases hlt : k < L
    · have hz : (k : Int) < (L : Int) := by omega
      have hz0 : (0 : Int) ≤ (k : Int) := by omega
      have KW : IntKind.i64.wrap ((k : Int) + 1) = ((k + 1 : Nat) : Int) := by rw [IntKind.wrap_i64]; omega
      obtain ⟨x, hx⟩ : ∃ x, is[k]? = some x := ⟨_, List.getElem?_eq_getElem (by rw [HL.out]; exact hlt)⟩
      have HMEM := keep (List.mem_of_getElem? hx)
      have HX := keep hx
      obtain ⟨g, rfl, hg⟩ : ∃ g, io = some ⟨g, 0, none⟩ ∧ g < W1.heap.size := by
        have h1 := HA.out
        unfold It at h1
        rw [HL.out] at h1
        exact own_some h1 (by omega)
      have HR := keep HA.out
      have c1 : wr.cell? ⟨g, k, none⟩ = some (.string x) := (KO.out.base.cell (p := ⟨g, k, none⟩) hg).trans (It.at HR.out hx)
      clear hx
      have mS := onl_push KO.out x (HL0.out x HMEM.out) (by simp; omega)
      go_wp2_with fail
      refine mS.mono ?_
      rintro _ V2 ⟨rfl, hO2⟩
      have HO2 := keep hO2
      clear mS hO2 c1
      go_wp2
      go_roundw
      case measure => simp [intOf]; omega
      case rel => exact ⟨k + 1, by omega, by go_num, by rw [take_more HX.out]; exact HO2.out⟩
    · have hz : ¬ (k : Int) < (L : Int) := by omega
      have hO : OnL W1 o (is) wr := by
        have := KO.out
        rwa [List.take_of_length_le (by rw [HL.out]; omega)] at this
      have KO1 := keep hO
      clear KO hO
      go_wp2_with fail
      refine (hold_list _ _).mono ?_
      rintro _ V3 ⟨rfl, hv, hb⟩
      have hO := KO1.out
      go_wp2
      go_ret
      exact DN.out _ _ (hO.base.trans (hb.mono hO.base.size)) (.inr (.inl ⟨rfl, _, _, hv, hO.bel hb⟩))
theorem build_fields (w : World) (V : Value) (d : Dt) (seed : Nat) (h : Pln w V d) (hok : Rfz d 0) (hsd : seed < Dw.M) (hkd : d.kind = 3) :
    Calls Tryz.prog 47 #[V, .int .u64 seed] w fun r w' => Made w d r w' ∧ Below w.heap.size w w' := by
  obtain ⟨hb0, hl0, hf0⟩ := hok.ok
  have hL0 : ∀ x ∈ d.items, x.size ≤ 1048576 := fun x hx => Nat.le_of_not_lt (fun e => hl0 (.inr (.inl ⟨x, hx, e⟩)))
  have hL1 : ∀ x ∈ d.pairs, x.1.size ≤ 1048576 ∧ x.2.size ≤ 1048576 := fun x hx => ⟨Nat.le_of_not_lt (fun e => hl0 (.inr (.inr (.inl ⟨x, hx, .inl e⟩)))), Nat.le_of_not_lt (fun e => hl0 (.inr (.inr (.inl ⟨x, hx, .inr e⟩))))⟩
  have hL2 : ∀ x ∈ d.ranks, x.1.size ≤ 1048576 := fun x hx => Nat.le_of_not_lt (fun e => hl0 (.inr (.inr (.inr ⟨x, hx, e⟩))))
  have hF0 : d.items.length ≤ 1048576 := Nat.le_of_not_lt (fun e => hf0 (.inl e))
  have hF1 : d.pairs.length ≤ 1048576 := Nat.le_of_not_lt (fun e => hf0 (.inr (.inl e)))
  have hF2 : d.ranks.length ≤ 1048576 := Nat.le_of_not_lt (fun e => hf0 (.inr (.inr e)))
  have hD0 : d.kind = 4 → d.items.Nodup := fun h4 => Classical.byContradiction (fun e => hb0 (.inr (.inl (.inl ⟨h4, e⟩))))
  have hD1 : (d.pairs.map Prod.fst).Nodup := Classical.byContradiction (fun e => hb0 (.inr (.inl (.inr (.inl e)))))
  have hD2 : (d.ranks.map Prod.fst).Nodup := Classical.byContradiction (fun e => hb0 (.inr (.inl (.inr (.inr e)))))
  have hN : ∀ x ∈ d.ranks, isNan x.2 = false := fun x hx => by
    cases e : isNan x.2
    · rfl
    · exact absurd (.inr (.inr ⟨x, hx, e⟩)) hb0
  obtain ⟨iv, pv, rv, rfl, a1, a2, a3⟩ := h
  obtain ⟨io, ic, hio⟩ := own_sl a1
  obtain ⟨po, pc, hpo⟩ := own_sl a2
  obtain ⟨ro, rc, hro⟩ := own_sl a3
  obtain ⟨W1, hW1⟩ : ∃ W1, w.alloc (.cells #[.int .i64 d.kind, .string d.text, iv, pv, rv] 30) = W1 := ⟨_, rfl⟩
  have hb1 : Below w.heap.size w W1 := by rw [← hW1]; exact (Below.refl _ w).alloc (Nat.le_refl _) _
  have g1 : Bx W1 w.heap.size d.kind d.text iv pv rv := by rw [← hW1]; exact heap_alloc_new _ _
  have A1 := keep (kept a1 hb1)
  have A2 := keep (kept a2 hb1)
  have A3 := keep (kept a3 hb1)
  subst hio hpo hro
  obtain ⟨kd, tx, is, ps, rs⟩ := d
  dsimp only at *
  unfold plV
  dsimp only
  subst hkd
  have HB1 := keep hb1
  have HW1 := keep hW1
  have G1 := keep g1
  have HL0 := keep hL0
  have HL1 := keep hL1
  have HL2 := keep hL2
  have HD0 := keep hD0
  have HD1 := keep hD1
  have HD2 := keep hD2
  have HN := keep hN
  have DN : Kept (∀ (b : Nat) (V' : World), Below W1.heap.size W1 V' → Val V' b ⟨3, tx, is, ps, rs⟩ → Made w ⟨3, tx, is, ps, rs⟩ (.returned (.pointer (some ⟨b, 0, none⟩))) V' ∧ Below w.heap.size w V') := fun b V' hb hv => ⟨⟨b, rfl, hv⟩, hb1.trans (hb.mono hb1.size)⟩
  clear hb0 hl0 hf0 a1 a2 a3 hb1 hW1 g1 hL0 hL1 hL2 hD0 hD1 hD2 hN hok
  obtain ⟨c0, c1, c2, c3, c4⟩ := five_cells G1.out
  generalize hL : ps.length = L at *
  have HL := keep hL
  have HA : Kept (Pr W1 (.slice po L pc) ps) := by
    have := A2.out
    unfold Pr
    rw [hL]
    exact this
  generalize is.length = n1 at *
  generalize rs.length = n3 at *
  clear hL
  go_enter Tryz.func47, Tryz.ntmps47
  go_wp2_with fail
  rw [HW1.out]
  refine (onr_new _ _ (Below.refl _ _) seed hsd).mono ?_
  rintro _ V1 ⟨o, rfl, hO⟩
  have KO0 := keep hO
  have cc := (hO.base.cell (p := ⟨w.heap.size, 3, none⟩) (World.block_lt_of_cell? _ _ c3)).trans c3
  clear hO c0 c1 c2 c3 c4
  go_wp2_with fail
  clear cc
  go_loopw [47] (fun i wr => ∃ k : Nat, k ≤ L ∧ i = .int .i64 k ∧ Kept (OnR W1 o (ps.take k) wr)) (fun i _ => L - (intOf i).toNat)
  case atStart => exact ⟨0, Nat.zero_le _, rfl, KO0.out⟩
  case round =>
    obtain ⟨k, hk, rfl, KO⟩ := hrel
    by_cases hlt : k < L
    · have hz : (k : Int) < (L : Int) := by omega
      have hz0 : (0 : Int) ≤ (k : Int) := by omega
      have KW : IntKind.i64.wrap ((k : Int) + 1) = ((k + 1 : Nat) : Int) := by rw [IntKind.wrap_i64]; omega
      obtain ⟨x, hx⟩ : ∃ x, ps[k]? = some x := ⟨_, List.getElem?_eq_getElem (by rw [HL.out]; exact hlt)⟩
      have HMEM := keep (List.mem_of_getElem? hx)
      have HX := keep hx
      obtain ⟨g, rfl, hg⟩ : ∃ g, po = some ⟨g, 0, none⟩ ∧ g < W1.heap.size := by
        have h1 := HA.out
        unfold Pr at h1
        rw [HL.out] at h1
        exact own_some h1 (by omega)
      have HR := keep HA.out
      obtain ⟨a1, a2⟩ := Pr.at HR.out hx
      obtain ⟨ok, hok⟩ : ∃ ok, k * 2 = ok := ⟨_, rfl⟩
      rw [hok] at a1 a2
      obtain ⟨x1, x2⟩ := x
      dsimp only at a1 a2
      have c1 := (KO.out.base.cell (p := ⟨g, ok, none⟩) hg).trans a1
      have c2 := (KO.out.base.cell (p := ⟨g, ok + 1, none⟩) hg).trans a2
      clear a1 a2
      have hba : Below wr.heap.size wr (wr.alloc (.cells #[.string x1, .string x2] 70)) := (Below.refl _ _).alloc (Nat.le_refl _) _
      clear hx
      have mS := onr_set (KO.out.bel hba) x1 x2 (HL1.out _ HMEM.out).1 (HL1.out _ HMEM.out).2 (by simp; omega) (nodup_at HD1.out HX.out)
      clear hba
      go_wp2_with fail
      refine mS.mono ?_
      rintro _ V2 ⟨⟨t, rfl⟩, hO2⟩
      have HO2 := keep hO2
      clear mS hO2 c1 c2
      go_wp2
      go_roundw
      case measure => simp [intOf]; omega
      case rel => exact ⟨k + 1, by omega, by go_num, by rw [take_more HX.out]; exact HO2.out⟩
    · have hz : ¬ (k : Int) < (L : Int) := by omega
      have hO : OnR W1 o (ps) wr := by
        have := KO.out
        rwa [List.take_of_length_le (by rw [HL.out]; omega)] at this
      have KO1 := keep hO
      clear KO hO
      go_wp2_with fail
      refine (hold_fields _ _).mono ?_
      rintro _ V3 ⟨rfl, hv, hb⟩
      have hO := KO1.out
      go_wp2
      go_ret
      exact DN.out _ _ (hO.base.trans (hb.mono hO.base.size)) (.inr (.inr (.inl ⟨rfl, _, _, hv, hO.bel hb⟩)))
theorem build_members (w : World) (V : Value) (d : Dt) (seed : Nat) (h : Pln w V d) (hok : Rfz d 0) (hsd : seed < Dw.M) (hkd : d.kind = 4) :
    Calls Tryz.prog 47 #[V, .int .u64 seed] w fun r w' => Made w d r w' ∧ Below w.heap.size w w' := by
  obtain ⟨hb0, hl0, hf0⟩ := hok.ok
  have hL0 : ∀ x ∈ d.items, x.size ≤ 1048576 := fun x hx => Nat.le_of_not_lt (fun e => hl0 (.inr (.inl ⟨x, hx, e⟩)))
  have hL1 : ∀ x ∈ d.pairs, x.1.size ≤ 1048576 ∧ x.2.size ≤ 1048576 := fun x hx => ⟨Nat.le_of_not_lt (fun e => hl0 (.inr (.inr (.inl ⟨x, hx, .inl e⟩)))), Nat.le_of_not_lt (fun e => hl0 (.inr (.inr (.inl ⟨x, hx, .inr e⟩))))⟩
  have hL2 : ∀ x ∈ d.ranks, x.1.size ≤ 1048576 := fun x hx => Nat.le_of_not_lt (fun e => hl0 (.inr (.inr (.inr ⟨x, hx, e⟩))))
  have hF0 : d.items.length ≤ 1048576 := Nat.le_of_not_lt (fun e => hf0 (.inl e))
  have hF1 : d.pairs.length ≤ 1048576 := Nat.le_of_not_lt (fun e => hf0 (.inr (.inl e)))
  have hF2 : d.ranks.length ≤ 1048576 := Nat.le_of_not_lt (fun e => hf0 (.inr (.inr e)))
  have hD0 : d.kind = 4 → d.items.Nodup := fun h4 => Classical.byContradiction (fun e => hb0 (.inr (.inl (.inl ⟨h4, e⟩))))
  have hD1 : (d.pairs.map Prod.fst).Nodup := Classical.byContradiction (fun e => hb0 (.inr (.inl (.inr (.inl e)))))
  have hD2 : (d.ranks.map Prod.fst).Nodup := Classical.byContradiction (fun e => hb0 (.inr (.inl (.inr (.inr e)))))
  have hN : ∀ x ∈ d.ranks, isNan x.2 = false := fun x hx => by
    cases e : isNan x.2
    · rfl
    · exact absurd (.inr (.inr ⟨x, hx, e⟩)) hb0
  obtain ⟨iv, pv, rv, rfl, a1, a2, a3⟩ := h
  obtain ⟨io, ic, hio⟩ := own_sl a1
  obtain ⟨po, pc, hpo⟩ := own_sl a2
  obtain ⟨ro, rc, hro⟩ := own_sl a3
  obtain ⟨W1, hW1⟩ : ∃ W1, w.alloc (.cells #[.int .i64 d.kind, .string d.text, iv, pv, rv] 30) = W1 := ⟨_, rfl⟩
  have hb1 : Below w.heap.size w W1 := by rw [← hW1]; exact (Below.refl _ w).alloc (Nat.le_refl _) _
  have g1 : Bx W1 w.heap.size d.kind d.text iv pv rv := by rw [← hW1]; exact heap_alloc_new _ _
  have A1 := keep (kept a1 hb1)
  have A2 := keep (kept a2 hb1)
  have A3 := keep (kept a3 hb1)
  subst hio hpo hro
  obtain ⟨kd, tx, is, ps, rs⟩ := d
  dsimp only at *
  unfold plV
  dsimp only
  subst hkd
  have HB1 := keep hb1
  have HW1 := keep hW1
  have G1 := keep g1
  have HL0 := keep hL0
  have HL1 := keep hL1
  have HL2 := keep hL2
  have HD0 := keep hD0
  have HD1 := keep hD1
  have HD2 := keep hD2
  have HN := keep hN
  have DN : Kept (∀ (b : Nat) (V' : World), Below W1.heap.size W1 V' → Val V' b ⟨4, tx, is, ps, rs⟩ → Made w ⟨4, tx, is, ps, rs⟩ (.returned (.pointer (some ⟨b, 0, none⟩))) V' ∧ Below w.heap.size w V') := fun b V' hb hv => ⟨⟨b, rfl, hv⟩, hb1.trans (hb.mono hb1.size)⟩
  clear hb0 hl0 hf0 a1 a2 a3 hb1 hW1 g1 hL0 hL1 hL2 hD0 hD1 hD2 hN hok
  obtain ⟨c0, c1, c2, c3, c4⟩ := five_cells G1.out
  generalize hL : is.length = L at *
  have HL := keep hL
  have HA : Kept (It W1 (.slice io L ic) is) := by
    have := A1.out
    unfold It
    rw [hL]
    exact this
  generalize ps.length = n2 at *
  generalize rs.length = n3 at *
  clear hL
  go_enter Tryz.func47, Tryz.ntmps47
  go_wp2_with fail
  rw [HW1.out]
  refine (onf_new _ _ (Below.refl _ _) seed hsd).mono ?_
  rintro _ V1 ⟨o, rfl, hO⟩
  have KO0 := keep hO
  have cc := (hO.base.cell (p := ⟨w.heap.size, 2, none⟩) (World.block_lt_of_cell? _ _ c2)).trans c2
  clear hO c0 c1 c2 c3 c4
  go_wp2_with fail
  clear cc
  go_loopw [67] (fun i wr => ∃ k : Nat, k ≤ L ∧ i = .int .i64 k ∧ Kept (OnF W1 o (un (is.take k)) wr)) (fun i _ => L - (intOf i).toNat)
  case atStart => exact ⟨0, Nat.zero_le _, rfl, KO0.out⟩
  case round =>
    obtain ⟨k, hk, rfl, KO⟩ := hrel
    by_cases hlt : k < L
    · have hz : (k : Int) < (L : Int) := by omega
      have hz0 : (0 : Int) ≤ (k : Int) := by omega
      have KW : IntKind.i64.wrap ((k : Int) + 1) = ((k + 1 : Nat) : Int) := by rw [IntKind.wrap_i64]; omega
      obtain ⟨x, hx⟩ : ∃ x, is[k]? = some x := ⟨_, List.getElem?_eq_getElem (by rw [HL.out]; exact hlt)⟩
      have HMEM := keep (List.mem_of_getElem? hx)
      have HX := keep hx
      obtain ⟨g, rfl, hg⟩ : ∃ g, io = some ⟨g, 0, none⟩ ∧ g < W1.heap.size := by
        have h1 := HA.out
        unfold It at h1
        rw [HL.out] at h1
        exact own_some h1 (by omega)
      have HR := keep HA.out
      have c1 : wr.cell? ⟨g, k, none⟩ = some (.string x) := (KO.out.base.cell (p := ⟨g, k, none⟩) hg).trans (It.at HR.out hx)
      clear hx
      have mS := onf_add KO.out x (HL0.out x HMEM.out) (by unfold un; simp; omega) (by rw [keys_un]; have hh := nodup_at (f := fun x => x) (by rw [List.map_id']; exact HD0.out (by trivial)) HX.out; rwa [List.map_id'] at hh)
      go_wp2_with fail
      refine mS.mono ?_
      rintro _ V2 ⟨⟨t, rfl⟩, hO2⟩
      have HO2 := keep hO2
      clear mS hO2 c1
      go_wp2
      go_roundw
      case measure => simp [intOf]; omega
      case rel => exact ⟨k + 1, by omega, by go_num, by rw [take_more HX.out]; unfold un at *; rw [List.map_append]; exact HO2.out⟩
    · have hz : ¬ (k : Int) < (L : Int) := by omega
      have hO : OnF W1 o (un is) wr := by
        have := KO.out
        rwa [List.take_of_length_le (by rw [HL.out]; omega)] at this
      have KO1 := keep hO
      clear KO hO
      go_wp2_with fail
      refine (hold_members _ _).mono ?_
      rintro _ V3 ⟨rfl, hv, hb⟩
      have hO := KO1.out
      go_wp2
      go_ret
      exact DN.out _ _ (hO.base.trans (hb.mono hO.base.size)) (.inr (.inr (.inr (.inl ⟨rfl, _, _, hv, hO.bel hb⟩))))
theorem build_ranked (w : World) (V : Value) (d : Dt) (seed : Nat) (h : Pln w V d) (hok : Rfz d 0) (hsd : seed < Dw.M) (hkd : d.kind = 5) :
    Calls Tryz.prog 47 #[V, .int .u64 seed] w fun r w' => Made w d r w' ∧ Below w.heap.size w w' := by
  obtain ⟨hb0, hl0, hf0⟩ := hok.ok
  have hL0 : ∀ x ∈ d.items, x.size ≤ 1048576 := fun x hx => Nat.le_of_not_lt (fun e => hl0 (.inr (.inl ⟨x, hx, e⟩)))
  have hL1 : ∀ x ∈ d.pairs, x.1.size ≤ 1048576 ∧ x.2.size ≤ 1048576 := fun x hx => ⟨Nat.le_of_not_lt (fun e => hl0 (.inr (.inr (.inl ⟨x, hx, .inl e⟩)))), Nat.le_of_not_lt (fun e => hl0 (.inr (.inr (.inl ⟨x, hx, .inr e⟩))))⟩
  have hL2 : ∀ x ∈ d.ranks, x.1.size ≤ 1048576 := fun x hx => Nat.le_of_not_lt (fun e => hl0 (.inr (.inr (.inr ⟨x, hx, e⟩))))
  have hF0 : d.items.length ≤ 1048576 := Nat.le_of_not_lt (fun e => hf0 (.inl e))
  have hF1 : d.pairs.length ≤ 1048576 := Nat.le_of_not_lt (fun e => hf0 (.inr (.inl e)))
  have hF2 : d.ranks.length ≤ 1048576 := Nat.le_of_not_lt (fun e => hf0 (.inr (.inr e)))
  have hD0 : d.kind = 4 → d.items.Nodup := fun h4 => Classical.byContradiction (fun e => hb0 (.inr (.inl (.inl ⟨h4, e⟩))))
  have hD1 : (d.pairs.map Prod.fst).Nodup := Classical.byContradiction (fun e => hb0 (.inr (.inl (.inr (.inl e)))))
  have hD2 : (d.ranks.map Prod.fst).Nodup := Classical.byContradiction (fun e => hb0 (.inr (.inl (.inr (.inr e)))))
  have hN : ∀ x ∈ d.ranks, isNan x.2 = false := fun x hx => by
    cases e : isNan x.2
    · rfl
    · exact absurd (.inr (.inr ⟨x, hx, e⟩)) hb0
  obtain ⟨iv, pv, rv, rfl, a1, a2, a3⟩ := h
  obtain ⟨io, ic, hio⟩ := own_sl a1
  obtain ⟨po, pc, hpo⟩ := own_sl a2
  obtain ⟨ro, rc, hro⟩ := own_sl a3
  obtain ⟨W1, hW1⟩ : ∃ W1, w.alloc (.cells #[.int .i64 d.kind, .string d.text, iv, pv, rv] 30) = W1 := ⟨_, rfl⟩
  have hb1 : Below w.heap.size w W1 := by rw [← hW1]; exact (Below.refl _ w).alloc (Nat.le_refl _) _
  have g1 : Bx W1 w.heap.size d.kind d.text iv pv rv := by rw [← hW1]; exact heap_alloc_new _ _
  have A1 := keep (kept a1 hb1)
  have A2 := keep (kept a2 hb1)
  have A3 := keep (kept a3 hb1)
  subst hio hpo hro
  obtain ⟨kd, tx, is, ps, rs⟩ := d
  dsimp only at *
  unfold plV
  dsimp only
  subst hkd
  have HB1 := keep hb1
  have HW1 := keep hW1
  have G1 := keep g1
  have HL0 := keep hL0
  have HL1 := keep hL1
  have HL2 := keep hL2
  have HD0 := keep hD0
  have HD1 := keep hD1
  have HD2 := keep hD2
  have HN := keep hN
  have DN : Kept (∀ (b : Nat) (V' : World), Below W1.heap.size W1 V' → Val V' b ⟨5, tx, is, ps, rs⟩ → Made w ⟨5, tx, is, ps, rs⟩ (.returned (.pointer (some ⟨b, 0, none⟩))) V' ∧ Below w.heap.size w V') := fun b V' hb hv => ⟨⟨b, rfl, hv⟩, hb1.trans (hb.mono hb1.size)⟩
  clear hb0 hl0 hf0 a1 a2 a3 hb1 hW1 g1 hL0 hL1 hL2 hD0 hD1 hD2 hN hok
  obtain ⟨c0, c1, c2, c3, c4⟩ := five_cells G1.out
  have sf : ∀ (x : Nat) (w : World) (a : Addr), (store a (.float .f64 x)).run Tryz.prog w = stored Tryz.prog w a (.float .f64 x) .plain := fun x w a => run_store _ w a _ _ rfl
  generalize hL : rs.length = L at *
  have HL := keep hL
  have HA : Kept (Ra W1 (.slice ro L rc) rs) := by
    have := A3.out
    unfold Ra
    rw [hL]
    exact this
  generalize is.length = n1 at *
  generalize ps.length = n2 at *
  clear hL
  go_enter Tryz.func47, Tryz.ntmps47
  go_wp2_with fail
  rw [HW1.out]
  refine (onk_new _ _ (Below.refl _ _) seed hsd).mono ?_
  rintro _ V1 ⟨o, rfl, hO⟩
  have KO0 := keep hO
  have cc := (hO.base.cell (p := ⟨w.heap.size, 4, none⟩) (World.block_lt_of_cell? _ _ c4)).trans c4
  clear hO c0 c1 c2 c3 c4
  go_wp2_with fail
  clear cc
  go_loopw [82] (fun i wr => ∃ k : Nat, k ≤ L ∧ i = .int .i64 k ∧ Kept (OnK W1 o (rs.take k) wr)) (fun i _ => L - (intOf i).toNat)
  case atStart => exact ⟨0, Nat.zero_le _, rfl, KO0.out⟩
  case round =>
    obtain ⟨k, hk, rfl, KO⟩ := hrel
    by_cases hlt : k < L
    · have hz : (k : Int) < (L : Int) := by omega
      have hz0 : (0 : Int) ≤ (k : Int) := by omega
      have KW : IntKind.i64.wrap ((k : Int) + 1) = ((k + 1 : Nat) : Int) := by rw [IntKind.wrap_i64]; omega
      obtain ⟨x, hx⟩ : ∃ x, rs[k]? = some x := ⟨_, List.getElem?_eq_getElem (by rw [HL.out]; exact hlt)⟩
      have HMEM := keep (List.mem_of_getElem? hx)
      have HX := keep hx
      obtain ⟨g, rfl, hg⟩ : ∃ g, ro = some ⟨g, 0, none⟩ ∧ g < W1.heap.size := by
        have h1 := HA.out
        unfold Ra at h1
        rw [HL.out] at h1
        exact own_some h1 (by omega)
      have HR := keep HA.out
      obtain ⟨a1, a2⟩ := Ra.at HR.out hx
      obtain ⟨ok, hok⟩ : ∃ ok, k * 2 = ok := ⟨_, rfl⟩
      rw [hok] at a1 a2
      obtain ⟨x1, x2⟩ := x
      dsimp only at a1 a2
      have c1 := (KO.out.base.cell (p := ⟨g, ok, none⟩) hg).trans a1
      have c2 := (KO.out.base.cell (p := ⟨g, ok + 1, none⟩) hg).trans a2
      clear a1 a2
      have hba : Below wr.heap.size wr (wr.alloc (.cells #[.string x1, .float .f64 x2] 73)) := (Below.refl _ _).alloc (Nat.le_refl _) _
      clear hx
      have mS := onk_set (KO.out.bel hba) x1 x2 (HL2.out _ HMEM.out) (HN.out _ HMEM.out) (by simp; omega) (nodup_at HD2.out HX.out)
      clear hba
      go_wp2_with fail
      refine mS.mono ?_
      rintro _ V2 ⟨⟨t, rfl⟩, hO2⟩
      have HO2 := keep hO2
      clear mS hO2 c1 c2
      go_wp2
      go_roundw
      case measure => simp [intOf]; omega
      case rel => exact ⟨k + 1, by omega, by go_num, by rw [take_more HX.out]; exact HO2.out⟩
    · have hz : ¬ (k : Int) < (L : Int) := by omega
      have hO : OnK W1 o (rs) wr := by
        have := KO.out
        rwa [List.take_of_length_le (by rw [HL.out]; omega)] at this
      have KO1 := keep hO
      clear KO hO
      go_wp2_with fail
      refine (hold_ranked _ _).mono ?_
      rintro _ V3 ⟨rfl, hv, hb⟩
      have hO := KO1.out
      go_wp2
      go_ret
      exact DN.out _ _ (hO.base.trans (hb.mono hO.base.size)) (.inr (.inr (.inr (.inr ⟨rfl, _, _, hv, hO.bel hb⟩))))
end Vl
end Go.Proofs.YtmgeaanbgjbkcaaGreat
