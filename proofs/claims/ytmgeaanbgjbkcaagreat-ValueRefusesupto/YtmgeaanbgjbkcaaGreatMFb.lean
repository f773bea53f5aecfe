/-
  Contracts over this program, put together.
-/
import Derived.Test.YtmgeaanbgjbkcaaGreatMFa
import Derived.Deep.QuietTactic
import Derived.BigQuiet
import Derived.WalkSmall
import Derived.Laws.OwnMore
import Derived.Laws.CopyOwn
set_option maxHeartbeats 8000000
namespace Go.Proofs.YtmgeaanbgjbkcaaGreat.DF
open Go.RowKit Go.Shelf
theorem split_at {α : Type} {l : List α} {p : Nat} {a : α} (h : l[p]? = some a) : l = l.take p ++ a :: l.drop (p + 1) := by
  have hl := (List.getElem?_eq_some_iff.1 h).1
  rw [List.getElem?_eq_getElem hl] at h
  rw [← Option.some.inj h, ← List.drop_eq_getElem_cons hl, List.take_append_drop]
theorem rest_ne {l : List Ent} {p : Nat} {key : ByteArray} {x : Nat} (hn : (Dc.keys l).Nodup) (h : l[p]? = some (key, x)) : (∀ e ∈ l.take p, e.1 ≠ key) ∧ ∀ e ∈ l.drop (p + 1), e.1 ≠ key := by
  have hs := split_at h
  rw [hs] at hn
  simp only [Dc.keys, List.map_append, List.map_cons] at hn
  obtain ⟨_, h2, h3⟩ := List.nodup_append.1 hn
  obtain ⟨h4, _⟩ := List.nodup_cons.1 h2
  refine ⟨fun e he hk => h3 e.1 (List.mem_map.2 ⟨e, he, rfl⟩) key (by simp) hk, fun e he hk => h4 (List.mem_map.2 ⟨e, he, hk⟩)⟩
theorem map_same {α : Type} {f : α → α} {l : List α} (h : ∀ e ∈ l, f e = e) : l.map f = l := by
  conv => rhs; rw [← List.map_id l]
  exact List.map_congr_left h
theorem keys_rev {c : List Ent} (hn : (Dc.keys c).Nodup) : (Dc.keys c.reverse).Nodup := by
  unfold Dc.keys at *
  rw [List.map_reverse]
  exact (List.reverse_perm _).nodup_iff.2 hn
theorem alter_at {c : List Ent} {p : Nat} {key : ByteArray} {x v : Nat} (hn : (Dc.keys c).Nodup) (h : c.reverse[p]? = some (key, x)) : (c.reverse.set p (key, v)).reverse = Dc.alter key v c := by
  obtain ⟨h1, h2⟩ := rest_ne (keys_rev hn) h
  have hs := split_at h
  have e1 : c.reverse.set p (key, v) = Dc.alter key v c.reverse := by
    have hl := (List.getElem?_eq_some_iff.1 h).1
    rw [List.set_eq_take_append_cons_drop, if_pos hl]
    unfold Dc.alter
    conv => rhs; rw [hs]
    rw [List.map_append, List.map_cons, if_pos rfl]
    congr 1
    · exact (map_same (fun e he => if_neg (h1 e he))).symm
    · congr 1
      exact (map_same (fun e he => if_neg (h2 e he))).symm
  rw [e1]
  unfold Dc.alter
  rw [List.map_reverse, List.reverse_reverse]
theorem chain_nodup {h : ByteArray → Nat} {s : Dc.St ByteArray Nat} (hI : Dc.Inv h s) {T : Dc.Tab ByteArray Nat} (hT : T = s.old ∨ T = s.young) {c : List Ent} (hc : c ∈ T) : (Dc.keys c).Nodup := by
  have hn := hI.nodup
  simp only [Dc.keys, List.map_append] at hn
  obtain ⟨h0, h1, _⟩ := List.nodup_append.1 hn
  have hsl : (Dc.keys c).Sublist (Dc.keys T.flatten) := (List.sublist_flatten_of_mem hc).map _
  rcases hT with rfl | rfl
  · exact hsl.nodup h0
  · exact hsl.nodup h1
theorem mod_set {T : Dc.Tab ByteArray Nat} {i : Nat} {c : List Ent} (f : List Ent → List Ent) (hc : T[i]? = some c) : T.modify i f = T.set i (f c) := by
  rw [List.modify_eq_set, hc]; rfl
theorem every_old {h : ByteArray → Nat} {s : Dc.St ByteArray Nat} (hI : Dc.Inv h s) {key : ByteArray} {x : Nat} {c : List Ent} (f : List Ent → List Ent) (hf : ∀ c : List Ent, (∀ e ∈ c, e.1 ≠ key) → f c = c) (hc : s.old[h key % s.old.length]? = some c) (hx : (key, x) ∈ c) :
    Dc.every f s = { s with old := s.old.set (h key % s.old.length) (f c) } := by
  unfold Dc.every
  rw [← Dc.modify_map hI.put0 key f hf, mod_set f hc]
  congr 1
  refine map_same (fun d hd => hf d (fun e he hk => ?_))
  have hn := hI.nodup
  simp only [Dc.keys, List.map_append] at hn
  exact (List.nodup_append.1 hn).2.2 key (List.mem_map.2 ⟨(key, x), List.mem_flatten.2 ⟨c, List.mem_of_getElem? hc, hx⟩, rfl⟩) e.1 (List.mem_map.2 ⟨e, List.mem_flatten.2 ⟨d, hd, he⟩, rfl⟩) hk.symm
theorem every_young {h : ByteArray → Nat} {s : Dc.St ByteArray Nat} (hI : Dc.Inv h s) {key : ByteArray} {x : Nat} {c : List Ent} (f : List Ent → List Ent) (hf : ∀ c : List Ent, (∀ e ∈ c, e.1 ≠ key) → f c = c) (hc : s.young[h key % s.young.length]? = some c) (hx : (key, x) ∈ c) :
    Dc.every f s = { s with young := s.young.set (h key % s.young.length) (f c) } := by
  unfold Dc.every
  rw [← Dc.modify_map hI.put1 key f hf, mod_set f hc]
  congr 1
  refine map_same (fun d hd => hf d (fun e he hk => ?_))
  have hn := hI.nodup
  simp only [Dc.keys, List.map_append] at hn
  exact (List.nodup_append.1 hn).2.2 e.1 (List.mem_map.2 ⟨e, List.mem_flatten.2 ⟨d, hd, he⟩, rfl⟩) key (List.mem_map.2 ⟨(key, x), List.mem_flatten.2 ⟨c, List.mem_of_getElem? hc, hx⟩, rfl⟩) hk
theorem look_found {h : ByteArray → Nat} {s : Dc.St ByteArray Nat} (hI : Dc.Inv h s) {T : Dc.Tab ByteArray Nat} (hT : T = s.old ∨ T = s.young) {key : ByteArray} {x : Nat} {c : List Ent} (hc : c ∈ T) (hx : (key, x) ∈ c) : Dc.look key (Dc.all s) = some x := by
  rw [Dc.all_eq hI]
  refine (Dc.look_mem hI.nodup key x).2 (List.mem_append.2 ?_)
  rcases hT with rfl | rfl
  · exact .inl (List.mem_flatten.2 ⟨c, hc, hx⟩)
  · exact .inr (List.mem_flatten.2 ⟨c, hc, hx⟩)
theorem look_missed {h : ByteArray → Nat} {s : Dc.St ByteArray Nat} (hI : Dc.Inv h s) {key : ByteArray} (h0 : ∀ x ∈ Dc.chain h s.old key, x.1 ≠ key) (h1 : ∀ x ∈ Dc.chain h s.young key, x.1 ≠ key) : Dc.look key (Dc.all s) = none := by
  rw [← Dc.seek hI key]
  have n0 : Dc.look key (Dc.chain h s.old key) = none := (Dc.look_none key).2 (fun hm => by obtain ⟨e, he, hk⟩ := List.mem_map.1 hm; exact h0 e he hk)
  have n1 : Dc.look key (Dc.chain h s.young key) = none := (Dc.look_none key).2 (fun hm => by obtain ⟨e, he, hk⟩ := List.mem_map.1 hm; exact h1 e he hk)
  rw [n0, n1]; rfl
/- the memory -/
theorem set_odd {l : List Ent} {p : Nat} {key : ByteArray} {x v : Nat} (h : l[p]? = some (key, x)) : (l.flatMap enE).set (p * 2 + 1) (.float .f64 v) = (l.set p (key, v)).flatMap enE := by
  induction l generalizing p with
  | nil => simp at h
  | cons a l ih =>
    cases p with
    | zero => simp at h; subst h; simp [enE]
    | succ p =>
      rw [List.set_cons_succ, List.flatMap_cons, List.flatMap_cons, ← ih (by simpa using h), List.set_append_right _ _ (by simp [enE]; omega)]
      congr 2
      simp [enE]; omega
theorem chn_set {w : World} {g n cap p : Nat} {c : List Ent} {key : ByteArray} {x v : Nat} (hC : Chn w (.slice (some ⟨g, 0, none⟩) n cap) c) (hp : c.reverse[p]? = some (key, x)) : Chn (w.setCell ⟨g, p * 2 + 1, none⟩ (.float .f64 v)) (.slice (some ⟨g, 0, none⟩) n cap) (c.reverse.set p (key, v)).reverse := by
  obtain ⟨h1, h2⟩ := hC
  have hl : ((c.reverse.set p (key, v)).reverse).length = c.length := by simp
  unfold Chn
  rw [hl]
  refine ⟨by rw [enC_len, hl], ?_⟩
  rcases h2 with ⟨e, _⟩ | ⟨g', cap', cur, e, _, hh, q1, q2, q3, q4⟩
  · cases e
  · cases e
    refine .inr ⟨g, cap, _, rfl, Nat.zero_le _, cells_setCell hh, q1, q2, by simpa using q3, ?_⟩
    rw [take_set q4]
    unfold enC
    rw [List.reverse_reverse]
    exact set_odd hp
theorem Tb.swap {w w' : World} {r : Roles} {t g cap n i : Nat} {T : Dc.Tab ByteArray Nat} {c c' : List Ent} {v : Value} (h : Tb w r t (.slice (some ⟨g, 0, none⟩) n cap) T) (hi : T[i]? = some c) (hv : w.cell? ⟨g, i, none⟩ = some v) (hC : Chn w' v c') (hr : ∀ k, v.ownBlock = some k → r k = (3 + t, i))
    (hk : ∀ k, k < w.heap.size → v.ownBlock ≠ some k → w'.heap[k]? = w.heap[k]?) : Tb w' r t (.slice (some ⟨g, 0, none⟩) n cap) (T.set i c') := by
  obtain ⟨vs, h1, h2, h3⟩ := h
  have hil : i < T.length := (List.getElem?_eq_some_iff.1 hi).1
  have hvg : v.ownBlock ≠ some g := fun e => by have := hr g e; rw [h2 g rfl] at this; simp at this
  refine ⟨vs, by rw [List.length_set]; exact own_kept h1 (fun k e => hk k (own_lt h1 e) (by cases e; exact hvg)), h2, fun j d hd => ?_⟩
  rw [List.getElem?_set] at hd
  by_cases hij : i = j
  · subst hij
    rw [if_pos rfl, if_pos hil] at hd
    cases hd
    obtain ⟨v', e1, e2, e3⟩ := h3 i c hi
    have := h1.cells (g := g) rfl i v' e1
    rw [show (⟨g, 0, none⟩ : Addr).add i = ⟨g, i, none⟩ by unfold Addr.add; split <;> simp_all, hv] at this
    cases this
    exact ⟨v, e1, hC, e3⟩
  · rw [if_neg hij] at hd
    obtain ⟨v', e1, e2, e3⟩ := h3 j d hd
    refine ⟨v', e1, own_kept e2 (fun k e => hk k (own_lt e2 e) (fun e' => ?_)), e3⟩
    have a := e3 k e
    rw [hr k e'] at a
    simp at a
    exact hij a
end Go.Proofs.YtmgeaanbgjbkcaaGreat.DF

namespace Go.Proofs.YtmgeaanbgjbkcaaGreat.DF
open Go.RowKit Go.Shelf
def Sought (w : World) (r : Roles) (b : Nat) (s : Dc.St ByteArray Nat) (h : ByteArray → Nat) (key : ByteArray) (e : Ending) : Prop :=
  (e = .returned (.tuple #[.slice none 0 0, .int .i64 0, .int .i64 (-1)]) ∧ (∀ x ∈ Dc.chain h s.old key, x.1 ≠ key) ∧ ∀ x ∈ Dc.chain h s.young key, x.1 ≠ key) ∨
  ∃ (t g cap p : Nat) (T : Dc.Tab ByteArray Nat) (x : Nat), ((t = 0 ∧ T = s.old) ∨ (t = 1 ∧ T = s.young)) ∧ 0 < T.length ∧ Tb w r t (.slice (some ⟨g, 0, none⟩) T.length cap) T ∧ w.cell? ⟨b, 2 + t, none⟩ = some (.slice (some ⟨g, 0, none⟩) T.length cap) ∧ (Dc.chain h T key).reverse[p]? = some (key, x) ∧
    e = .returned (.tuple #[.slice (some ⟨g, 0, none⟩) T.length cap, .int .i64 ((h key % T.length : Nat) : Int), .int .i64 p])
theorem sought_at {w : World} {r : Roles} {b : Nat} {s : Dc.St ByteArray Nat} {h : ByteArray → Nat} {key : ByteArray} {t g cap p : Nat} {T : Dc.Tab ByteArray Nat} {x : Nat} (h1 : (t = 0 ∧ T = s.old) ∨ (t = 1 ∧ T = s.young)) (h2 : 0 < T.length) (h3 : Tb w r t (.slice (some ⟨g, 0, none⟩) T.length cap) T) (h5 : w.cell? ⟨b, 2 + t, none⟩ = some (.slice (some ⟨g, 0, none⟩) T.length cap)) (h4 : (Dc.chain h T key).reverse[p]? = some (key, x)) :
    Sought w r b s h key (.returned (.tuple #[.slice (some ⟨g, 0, none⟩) T.length cap, .int .i64 ((h key % T.length : Nat) : Int), .int .i64 p])) := .inr ⟨t, g, cap, p, T, x, h1, h2, h3, h5, h4, rfl⟩
theorem chain_none {h : ByteArray → Nat} {T : Dc.Tab ByteArray Nat} {key : ByteArray} (hT : T.length = 0) : ∀ x ∈ Dc.chain h T key, x.1 ≠ key := by
  rw [List.length_eq_zero_iff.1 hT]
  intro x hx
  simp [Dc.chain] at hx
theorem idx0 (a b : Option Addr) (n c m d : Nat) (w : World) : (Instr.index 308 (.agg #[.slice a n c, .slice b m d]) (.int .i64 0)).run Tryz.prog w = .ok (.slice a n c) w := by kernel_rfl
theorem idx1 (a b : Option Addr) (n c m d : Nat) (w : World) : (Instr.index 308 (.agg #[.slice a n c, .slice b m d]) (.int .i64 1)).run Tryz.prog w = .ok (.slice b m d) w := by kernel_rfl
set_option maxRecDepth 100000 in
theorem seek_any {h : ByteArray → Nat} {seed : Nat} (hH : HashIs seed h) (w : World) (r : Roles) (b n : Nat) (s : Dc.St ByteArray Nat) (key : ByteArray) (hD : Dct w r b seed n s) (hk : key.size ≤ maxLen) (hm0 : s.old.length ≤ maxLen) (hm1 : s.young.length ≤ maxLen) :
    Calls Tryz.prog 214 #[.pointer (some ⟨b, 0, none⟩), .string key] w fun e w' => Sought w r b s h key e ∧ Below w.heap.size w w' := by
  obtain ⟨ao, ca, bo, cb, h4, h5, h3⟩ := hD.cells
  obtain ⟨c0, c1, c2, c3, c4, cf⟩ := five h3
  have H4 := keep h4
  have H5 := keep h5
  have mH := (hH key hk).2 w
  clear h3 h4 h5 c1 c4 cf hD
  go_enter Tryz.func214, Tryz.ntmps214
  go_wp2_with fail
  refine mH.mono ?_
  rintro _ w' ⟨rfl, hw'⟩
  subst hw'
  go_wp2_with fail
  go_quiet (fail)
  go_wp2
  clear mH c0
  go_loopw [27] (fun i wr => ∃ k : Nat, k ≤ 2 ∧ i = .int .i64 k ∧ Kept (Below w'.heap.size w' wr) ∧ Kept (0 < k → ∀ x ∈ Dc.chain h s.old key, x.1 ≠ key) ∧ Kept (1 < k → ∀ x ∈ Dc.chain h s.young key, x.1 ≠ key)) (fun i _ => 2 - (intOf i).toNat)
  case atStart => exact ⟨0, by omega, rfl, below_drewN (Below.refl _ _) _, fun h => absurd h (by omega), fun h => absurd h (by omega)⟩
  case round =>
    obtain ⟨k, hk2, rfl, BW, N0, N1⟩ := hrel
    have hk3 : k = 0 ∨ k = 1 ∨ k = 2 := by omega
    rcases hk3 with rfl | rfl | rfl
    · have ix := idx0 ao bo s.old.length ca s.young.length cb wr
      by_cases hT0 : (s.old).length = 0
      · have e0 : ((s.old.length : Int) == 0) = true := by rw [hT0]; rfl
        have hnone := keep (chain_none (h := h) (key := key) hT0)
        clear hT0
        go_wp2
        go_roundw
        case measure => simp [intOf]
        case rel => exact ⟨1, by omega, rfl, BW, fun _ => hnone.out, fun h => absurd h (by omega)⟩
      · obtain ⟨g, cap, e5, hrg, hgl⟩ := H4.out.form (by omega)
        have e6 : ao = some ⟨g, 0, none⟩ := by injection e5
        clear e5
        subst e6
        have hlen : ((s.old.length : Int) == 0) = false := beq_eq_false_iff_ne.2 (by omega)
        have hlt : h key % s.old.length < s.old.length := Nat.mod_lt _ (by omega)
        obtain ⟨c, hc⟩ : ∃ c, s.old[h key % s.old.length]? = some c := ⟨_, List.getElem?_eq_getElem hlt⟩
        have hch : Dc.chain h s.old key = c := by unfold Dc.chain; rw [hc]; rfl
        obtain ⟨v, hv1, hv2, _⟩ := H4.out.at hc
        have mO := of_any wr (some ⟨g, 0, none⟩) s.old.length ca (h key) (by omega) hm0 (hH key hk).1
        have mF := cfind_any wr v c key (own_kept hv2 (fun k hk => BW.out.block k (own_lt hv2 hk)))
        have hcell : wr.cell? ⟨g, h key % s.old.length, none⟩ = some v := (BW.out.cell (p := ⟨g, h key % s.old.length, none⟩) hgl).trans hv1
        have HF := keep (fun (p : Nat) (x : Nat) (hp : c.reverse[p]? = some (key, x)) => sought_at (s := s) (key := key) (h := h) (t := 0) (T := s.old) (g := g) (cap := ca) (w := w') (r := r) (p := p) (x := x) (.inl ⟨rfl, rfl⟩) (by omega) H4.out c2 (by rw [hch]; exact hp))
        have HCH := keep hch
        clear hv1 hv2 hc hch
        generalize hix : h key % s.old.length = i at *
        have HIX := keep hix
        clear hix
        have hi0 : (0 : Int) ≤ (i : Int) := by omega
        have hi1 : (i : Int) < (s.old.length : Int) := by omega
        obtain ⟨wo, hwo⟩ : ∃ x, x = wr := ⟨_, rfl⟩
        subst hwo
        go_wp2_with fail
        refine mO.mono ?_
        rintro _ w' ⟨rfl, hw'⟩
        obtain rfl := hw'.symm
        go_wp2_with fail
        refine mF.mono ?_
        rintro _ w2 ⟨⟨q, rfl, hq⟩, hb2⟩
        have HB2 := keep hb2
        clear hb2 mO mF
        rcases hq with ⟨rfl, hno⟩ | ⟨p, x, rfl, hpl, hp⟩
        · have HNO := keep hno
          clear hno
          go_wp2
          go_roundw
          case measure => simp [intOf]
          case rel => exact ⟨1, by omega, rfl, BW.out.trans (HB2.out.mono BW.out.size), fun _ => by show ∀ x ∈ Dc.chain h s.old key, _; rw [HCH.out]; exact HNO.out, fun h => absurd h (by omega)⟩
        · have HP := keep hp
          clear hp
          have hp0 : (0 : Int) ≤ (p : Int) := by omega
          go_wp2
          refine bodyPost_ret (results_tmp3 rfl _ _ _) rfl ?_
          exact ⟨HF.out p x HP.out, BW.out.trans (HB2.out.mono BW.out.size)⟩
    · have ix := idx1 ao bo s.old.length ca s.young.length cb wr
      by_cases hT0 : (s.young).length = 0
      · have e0 : ((s.young.length : Int) == 0) = true := by rw [hT0]; rfl
        have hnone := keep (chain_none (h := h) (key := key) hT0)
        clear hT0
        go_wp2
        go_roundw
        case measure => simp [intOf]
        case rel => exact ⟨2, by omega, rfl, BW, fun _ => N0.out (by omega), fun _ => hnone.out⟩
      · obtain ⟨g, cap, e5, hrg, hgl⟩ := H5.out.form (by omega)
        have e6 : bo = some ⟨g, 0, none⟩ := by injection e5
        clear e5
        subst e6
        have hlen : ((s.young.length : Int) == 0) = false := beq_eq_false_iff_ne.2 (by omega)
        have hlt : h key % s.young.length < s.young.length := Nat.mod_lt _ (by omega)
        obtain ⟨c, hc⟩ : ∃ c, s.young[h key % s.young.length]? = some c := ⟨_, List.getElem?_eq_getElem hlt⟩
        have hch : Dc.chain h s.young key = c := by unfold Dc.chain; rw [hc]; rfl
        obtain ⟨v, hv1, hv2, _⟩ := H5.out.at hc
        have mO := of_any wr (some ⟨g, 0, none⟩) s.young.length cb (h key) (by omega) hm1 (hH key hk).1
        have mF := cfind_any wr v c key (own_kept hv2 (fun k hk => BW.out.block k (own_lt hv2 hk)))
        have hcell : wr.cell? ⟨g, h key % s.young.length, none⟩ = some v := (BW.out.cell (p := ⟨g, h key % s.young.length, none⟩) hgl).trans hv1
        have HF := keep (fun (p : Nat) (x : Nat) (hp : c.reverse[p]? = some (key, x)) => sought_at (s := s) (key := key) (h := h) (t := 1) (T := s.young) (g := g) (cap := cb) (w := w') (r := r) (p := p) (x := x) (.inr ⟨rfl, rfl⟩) (by omega) H5.out c3 (by rw [hch]; exact hp))
        have HCH := keep hch
        clear hv1 hv2 hc hch
        generalize hix : h key % s.young.length = i at *
        have HIX := keep hix
        clear hix
        have hi0 : (0 : Int) ≤ (i : Int) := by omega
        have hi1 : (i : Int) < (s.young.length : Int) := by omega
        obtain ⟨wo, hwo⟩ : ∃ x, x = wr := ⟨_, rfl⟩
        subst hwo
        go_wp2_with fail
        refine mO.mono ?_
        rintro _ w' ⟨rfl, hw'⟩
        obtain rfl := hw'.symm
        go_wp2_with fail
        refine mF.mono ?_
        rintro _ w2 ⟨⟨q, rfl, hq⟩, hb2⟩
        have HB2 := keep hb2
        clear hb2 mO mF
        rcases hq with ⟨rfl, hno⟩ | ⟨p, x, rfl, hpl, hp⟩
        · have HNO := keep hno
          clear hno
          go_wp2
          go_roundw
          case measure => simp [intOf]
          case rel => exact ⟨2, by omega, rfl, BW.out.trans (HB2.out.mono BW.out.size), fun _ => N0.out (by omega), fun _ => by show ∀ x ∈ Dc.chain h s.young key, _; rw [HCH.out]; exact HNO.out⟩
        · have HP := keep hp
          clear hp
          have hp0 : (0 : Int) ≤ (p : Int) := by omega
          go_wp2
          refine bodyPost_ret (results_tmp3 rfl _ _ _) rfl ?_
          exact ⟨HF.out p x HP.out, BW.out.trans (HB2.out.mono BW.out.size)⟩
    · go_wp2
      refine bodyPost_ret (results_tmp3 rfl _ _ _) rfl ?_
      exact ⟨.inl ⟨rfl, N0.out (by omega), N1.out (by omega)⟩, BW.out⟩
end Go.Proofs.YtmgeaanbgjbkcaaGreat.DF

namespace Go.Proofs.YtmgeaanbgjbkcaaGreat.DF
open Go.RowKit Go.Shelf
def shiftR (r : Roles) : Roles := fun k => if (r k).1 = 2 ∨ (r k).1 = 4 then ((r k).1 - 1, (r k).2) else if (r k).1 = 1 ∨ (r k).1 = 3 then (9, 0) else r k
theorem shiftR_zero {r : Roles} {k : Nat} (h : r k = (0, 0)) : shiftR r k = (0, 0) := by unfold shiftR; rw [h]; simp
theorem shiftR_ne {r : Roles} {k : Nat} (h : shiftR r k ≠ (0, 0)) : r k ≠ (0, 0) := fun e => h (shiftR_zero e)
theorem Tb.shift {w w' : World} {r : Roles} {tv : Value} {T : Dc.Tab ByteArray Nat} (h : Tb w r 1 tv T) (hk : ∀ k, k < w.heap.size → ((r k).1 = 2 ∨ (r k).1 = 4) → w'.heap[k]? = w.heap[k]?) : Tb w' (shiftR r) 0 tv T := by
  obtain ⟨vs, h1, h2, h3⟩ := h
  refine ⟨vs, own_kept h1 (fun k e => hk k (own_lt h1 e) (.inl (by rw [h2 k e]))), fun k e => ?_, fun i c hc => ?_⟩
  · unfold shiftR; rw [h2 k e]; simp
  · obtain ⟨v, e1, e2, e3⟩ := h3 i c hc
    refine ⟨v, e1, own_kept e2 (fun k e => hk k (own_lt e2 e) (.inr (by rw [e3 k e]))), fun k e => ?_⟩
    unfold shiftR; rw [e3 k e]; simp
theorem Tb.new {w : World} {r : Roles} {t : Nat} : Tb w r t (.slice none 0 0) [] := ⟨[], ⟨rfl, .inl ⟨rfl, rfl⟩⟩, (fun k e => by cases e), (fun i c hc => by simp at hc)⟩
theorem shift_mem {w w' : World} {r : Roles} {b seed n : Nat} {s : Dc.St ByteArray Nat} {yv : Value} (hD : Dct w r b seed n s) (hy : Tb w r 1 yv s.young) (ho : Only b w w') (hb : w'.heap[b]? = some (.cells #[.int .u64 seed, .int .i64 n, yv, .slice none 0 0, .int .i64 0] 250 (0, 0))) :
    Dct w' (shiftR r) b seed n { old := s.young, young := [], pos := 0 } ∧ Fr w r w' (shiftR r) := by
  have hrb := hD.2.1
  refine ⟨⟨fun k hk => by rw [ho.2.1]; exact hD.1 k (shiftR_ne hk), by unfold shiftR; rw [hrb]; simp, yv, .slice none 0 0, hb, ?_, Tb.new⟩, ho.1, by rw [ho.2.1]; exact Nat.le_refl _, fun k _ hr => ⟨ho.2.2 k (fun e => by rw [e, hrb] at hr; simp at hr), shiftR_zero hr⟩⟩
  exact hy.shift (fun k _ hr => ho.2.2 k (fun e => by rw [e, hrb] at hr; simp at hr))
theorem set3_mem {w : World} {b : Nat} {a0 a1 a2 a3 a4 u2 u3 u4 : Value} {t : TypeId} {fr : Nat × Nat} (h : w.heap[b]? = some (.cells #[a0, a1, a2, a3, a4] t fr)) : (((w.setCell ⟨b, 2, none⟩ u2).setCell ⟨b, 3, none⟩ u3).setCell ⟨b, 4, none⟩ u4).heap[b]? = some (.cells #[a0, a1, u2, u3, u4] t fr) :=
  cells_setCell (cells_setCell (cells_setCell h))
theorem step_done {h : ByteArray → Nat} {s : Dc.St ByteArray Nat} (hne : s.young ≠ []) {s' : Dc.St ByteArray Nat} (hs : Dc.shift (Dc.carry h { s with pos := Dc.skip 10 s.old s.pos }) = s') : Dc.step h s = s' := by
  unfold Dc.step
  rw [if_neg (by rw [Dc.empty_iff]; exact hne)]
  exact hs
theorem carry_not {h : ByteArray → Nat} {s : Dc.St ByteArray Nat} (hc : s.old[s.pos]? = none ∨ s.old[s.pos]? = some []) : Dc.carry h s = s := by
  unfold Dc.carry
  rcases hc with hc | hc <;> rw [hc]
theorem shift_is {s s' : Dc.St ByteArray Nat} (hc : s' = s) (hp : s.pos = s.old.length) : Dc.shift s' = { old := s.young, young := [], pos := 0 } := by
  rw [hc]; unfold Dc.shift; rw [if_pos hp]
theorem shift_not {s s' : Dc.St ByteArray Nat} (hc : s' = s) (hp : ¬ s.pos = s.old.length) : Dc.shift s' = s := by
  rw [hc]; unfold Dc.shift; rw [if_neg hp]
set_option maxRecDepth 100000 in
theorem step_any {h : ByteArray → Nat} {seed : Nat} (hH : HashIs seed h) (w : World) (r : Roles) (b n : Nat) (s : Dc.St ByteArray Nat) (hD : Dct w r b seed n s) (hI : Dc.Inv h s)
    (hm0 : s.old.length ≤ maxLen) (hm1 : s.young.length ≤ maxLen) (hk : ∀ x ∈ s.old.flatten, x.1.size ≤ maxLen) (hl : s.young.flatten.length + s.old.flatten.length ≤ 2600000000000) :
    Calls Tryz.prog 213 #[.pointer (some ⟨b, 0, none⟩)] w fun x w' => x = .returned (.tuple #[]) ∧ ∃ r', Dct w' r' b seed n (Dc.step h s) ∧ Fr w r w' r' := by
  obtain ⟨ao, ca, bo, cb, h4, h5, h3⟩ := hD.cells
  obtain ⟨c0, c1, c2, c3, c4, cf⟩ := five h3
  have mM := moving_any w b bo _ cb c3
  by_cases hy0 : s.young = []
  · have hd : decide (0 < s.young.length) = false := by rw [hy0]; rfl
    rw [hd] at mM
    have hst := Dc.step_still h hy0
    have HD := keep hD
    clear hD hI h4 h5 h3 c0 c1 c2 c3 c4 cf hk
    go_enter Tryz.func213, Tryz.ntmps213
    go_wp2_with fail
    refine mM.mono ?_
    rintro _ w' ⟨rfl, rfl⟩
    go_wp2
    refine bodyPost_ret (results_none rfl _ _ _) rfl ?_
    exact ⟨rfl, r, by rw [hst]; exact HD.out, Fr.refl _ _⟩
  · have hyl : 0 < s.young.length := by cases hs : s.young with | nil => exact absurd hs hy0 | cons _ _ => simp
    have hd : decide (0 < s.young.length) = true := decide_eq_true hyl
    rw [hd] at mM
    have hpos := hI.move hy0
    have mP := pass_any w r b seed n s hD (by omega) hm0
    have hrb := hD.2.1
    have hsk := Dc.skip_len 10 s.old s.pos (by omega)
    have HST := keep (fun s' => step_done (h := h) (s := s) hy0 (s' := s'))
    have HFR := keep (fun w' (ho : Only b w w') => Only.fr (r := r) ho hrb)
    generalize hs1 : ({ s with pos := Dc.skip 10 s.old s.pos } : Dc.St ByteArray Nat) = s1 at mP HST
    have eo : s1.old = s.old := by rw [← hs1]
    have ey : s1.young = s.young := by rw [← hs1]
    have ep : s1.pos = Dc.skip 10 s.old s.pos := by rw [← hs1]
    clear hs1
    rw [← ep] at hsk
    rw [← eo] at hm0 hk hl hsk
    rw [← ey] at hm1 hl hyl
    clear hD hI h4 h5 h3 c0 c1 c2 c3 c4 cf hpos eo ey ep hd
    go_enter Tryz.func213, Tryz.ntmps213
    go_wp2_with fail
    refine mM.mono ?_
    rintro _ w' ⟨rfl, hw'⟩
    subst hw'
    go_wp2_with fail
    refine mP.mono ?_
    rintro _ w1 ⟨rfl, hD1, ho1⟩
    clear mM mP
    obtain ⟨ao, ca, bo, cb, h4, h5, h3⟩ := hD1.cells
    obtain ⟨c0, c1, c2, c3, c4, cf⟩ := five h3
    have HF1 := keep (HFR.out _ ho1)
    have HD1 := keep hD1
    have H3 := keep h3
    have H4 := keep h4
    have H5 := keep h5
    have f2 := cf 2
    have f3 := cf 3
    have f4 := cf 4
    clear hD1 h3 h4 h5 cf c0 c1 ho1
    rcases Nat.lt_or_ge s1.pos s1.old.length with hlt | hge
    · have he : ((s1.pos : Int) == (s1.old.length : Int)) = false := beq_eq_false_iff_ne.2 (by omega)
      have hlt' : (s1.pos : Int) < (s1.old.length : Int) := by omega
      have hp0 : (0 : Int) ≤ (s1.pos : Int) := by omega
      obtain ⟨g, ca', e4, hrg, hgl⟩ := H4.out.form (by omega)
      have e5 : ao = some ⟨g, 0, none⟩ := by injection e4
      subst e5
      clear e4
      obtain ⟨c, hc⟩ : ∃ c, s1.old[s1.pos]? = some c := ⟨_, List.getElem?_eq_getElem hlt⟩
      obtain ⟨v, hv1, hv2, _⟩ := H4.out.at hc
      obtain ⟨co, cc, rfl⟩ := chn_len hv2
      clear hv2
      cases c with
      | nil =>
        have hcar := keep (shift_not (carry_not (h := h) (.inr hc)) (by omega))
        have hv1 : w1.cell? ⟨g, s1.pos, none⟩ = some (.slice co 0 cc) := hv1
        clear hc
        go_wp2_with fail
        go_region
        go_wp2_with fail
        go_region
        go_wp2
        go_end0
        exact ⟨rfl, r, by rw [HST.out _ hcar.out]; exact HD1.out.below (Below.refl _ _).drew.drew, HF1.out⟩
      | cons e c =>
        have mV := move_any hH w1.drew r b n s1 e c (HD1.out.below (Below.refl _ _).drew) hc hyl hm0 hm1 (fun x hx => hk x (List.mem_flatten.2 ⟨_, List.mem_of_getElem? hc, hx⟩)) (by have := (List.sublist_flatten_of_mem (List.mem_of_getElem? hc)).length_le; omega)
        have hcar : (Dc.carry h s1).old.length = s1.old.length ∧ (Dc.carry h s1).pos = s1.pos + 1 := by unfold Dc.carry; rw [hc]; simp
        generalize Dc.carry h s1 = s2 at mV hcar HST
        have hz : decide (0 < (e :: c).length) = true := by simp
        generalize (e :: c).length = m at *
        clear hc
        go_wp2_with fail
        go_region
        go_wp2_with fail
        refine mV.mono ?_
        rintro _ w2 ⟨rfl, r2, hD2, hF2⟩
        clear mV
        have HF2 := keep hF2
        have HD2 := keep hD2
        obtain ⟨ao2, ca2, bo2, cb2, h4, h5, h3⟩ := hD2.cells
        obtain ⟨c0, c1, d2, d3, d4, cf⟩ := five h3
        have K3 := keep h3
        have K5 := keep h5
        have f2' := cf 2
        have f3' := cf 3
        have f4' := cf 4
        have hlen := hcar.1
        have hpo := keep hcar.2
        clear hD2 h3 h4 h5 cf c0 c1 hF2 hcar c2 c3 c4 f2 f3 f4 hv1
        by_cases hend : s2.pos = s2.old.length
        · have he2 : ((s2.pos : Int) == (s2.old.length : Int)) = true := by rw [hend]; simp
          have hsh := keep (shift_is rfl hend)
          clear hend he hlen
          go_wp2_with fail
          go_region
          go_wp2
          go_end0
          obtain ⟨q1, q2⟩ := shift_mem HD2.out K5.out (((((Only.refl b w2).drew).setCell 2 (.slice bo2 s2.young.length cb2)).setCell 3 (.slice none 0 0)).setCell 4 (.int .i64 0)) (set3_mem K3.out)
          exact ⟨rfl, _, by rw [HST.out _ hsh.out]; exact q1, (HF1.out.trans (Fr.of_below (Below.refl _ _).drew)).trans (HF2.out.trans q2)⟩
        · have he2 : ((s2.pos : Int) == (s2.old.length : Int)) = false := beq_eq_false_iff_ne.2 (by omega)
          have hsh := keep (shift_not rfl hend)
          clear hend he hlen
          go_wp2_with fail
          go_region
          go_wp2
          go_end0
          exact ⟨rfl, r2, by rw [HST.out _ hsh.out]; exact HD2.out.below (Below.refl _ _).drew, (HF1.out.trans (Fr.of_below (Below.refl _ _).drew)).trans (HF2.out.trans (Fr.of_below (Below.refl _ _).drew))⟩
    · have hpe : s1.pos = s1.old.length := by omega
      have he : ((s1.pos : Int) == (s1.old.length : Int)) = true := by rw [hpe]; simp
      have hlt' : ¬ (s1.pos : Int) < (s1.old.length : Int) := by omega
      have hcar := keep (shift_is (carry_not (h := h) (.inl (List.getElem?_eq_none (by omega)))) hpe)
      have hlt2 : ¬ s1.pos < s1.old.length := by omega
      clear hpe hge
      go_wp2_with fail
      go_region
      go_wp2_with fail
      go_region
      go_wp2
      go_end0
      obtain ⟨q1, q2⟩ := shift_mem HD1.out H5.out (((((Only.refl b w1).drew.drew).setCell 2 (.slice bo s1.young.length cb)).setCell 3 (.slice none 0 0)).setCell 4 (.int .i64 0)) (set3_mem H3.out)
      exact ⟨rfl, _, by rw [HST.out _ hcar.out]; exact q1, HF1.out.trans q2⟩
end Go.Proofs.YtmgeaanbgjbkcaaGreat.DF

namespace Go.Proofs.YtmgeaanbgjbkcaaGreat.DF
open Go.RowKit Go.Shelf
def Okd (h : ByteArray → Nat) (N : Nat) (s : Dc.St ByteArray Nat) : Prop :=
  Dc.Inv h s ∧ (∀ e ∈ Dc.all s, e.1.size ≤ maxLen) ∧ (Dc.all s).length ≤ N ∧ s.old.length ≤ 2 * N + 4 ∧ s.young.length ≤ 2 * N + 4
theorem okd_none (h : ByteArray → Nat) (N : Nat) : Okd h N Dc.none0 := ⟨Dc.none0_inv h, fun e he => by simp [Dc.all, Dc.none0] at he, by simp [Dc.all, Dc.none0], by simp [Dc.none0], by simp [Dc.none0]⟩
theorem okd_step {h : ByteArray → Nat} {N : Nat} {s : Dc.St ByteArray Nat} (hO : Okd h N s) : Okd h N (Dc.step h s) ∧ (Dc.all (Dc.step h s)).length = (Dc.all s).length := by
  obtain ⟨h1, h2, h3, h4, h5⟩ := hO
  obtain ⟨q1, q2⟩ := Dc.step_inv h1
  refine ⟨⟨q1, fun e he => h2 e (q2.mem_iff.1 he), by rw [q2.length_eq]; exact h3, ?_, ?_⟩, q2.length_eq⟩
  · by_cases hy : s.young = []
    · rw [Dc.step_still h hy]; exact h4
    · rcases Dc.step_little h1 hy with ⟨_, _, e⟩ | ⟨_, _, e, _⟩
      · rw [e]; exact h5
      · rw [e]; exact h4
  · by_cases hy : s.young = []
    · rw [Dc.step_still h hy]; exact h5
    · rcases Dc.step_little h1 hy with ⟨e, _, _⟩ | ⟨_, _, _, e⟩
      · rw [e]; simp
      · rw [e]; exact h5
theorem grow_len {n N : Nat} {s : Dc.St ByteArray Nat} (hn : n ≤ N) (h4 : s.old.length ≤ 2 * N + 4) (h5 : s.young.length ≤ 2 * N + 4) : (Dc.grow n s).old.length ≤ 2 * N + 4 ∧ (Dc.grow n s).young.length ≤ 2 * N + 4 := by
  unfold Dc.grow
  split
  · exact ⟨by simp, by simp⟩
  · split
    · rename_i hc
      rw [Bool.and_eq_true, decide_eq_true_iff] at hc
      refine ⟨h4, ?_⟩
      rw [List.length_replicate]; omega
    · exact ⟨h4, h5⟩
theorem lay_len {h : ByteArray → Nat} {M : Nat} {s : Dc.St ByteArray Nat} {e : Ent} (hh : s.old.length ≤ M ∧ s.young.length ≤ M) : (Dc.lay h s e).old.length ≤ M ∧ (Dc.lay h s e).young.length ≤ M := by
  unfold Dc.lay
  split
  · exact ⟨by rw [Dc.push_len]; exact hh.1, hh.2⟩
  · exact ⟨hh.1, by rw [Dc.push_len]; exact hh.2⟩
theorem okd_set {h : ByteArray → Nat} {N : Nat} {s : Dc.St ByteArray Nat} (hO : Okd h N s) {key : ByteArray} (hk : key.size ≤ maxLen) (v : Nat) : Okd h (N + 1) (Dc.set h s key v).1 := by
  obtain ⟨h1, h2, h3, h4, h5⟩ := hO
  obtain ⟨q1, q2, q3, q4⟩ := Dc.set_inv h1 key v
  have hS := (okd_step ⟨h1, h2, h3, h4, h5⟩).1
  refine ⟨q1, fun e he => ?_, by rw [q4]; split <;> omega, ?_⟩
  · have hn : (Dc.keys (Dc.all (Dc.set h s key v).1)).Nodup := by rw [Dc.all_eq q1]; exact q1.nodup
    have hl := (Dc.look_mem hn e.1 e.2).2 he
    rw [q3] at hl
    by_cases hke : e.1 = key
    · rw [hke]; exact hk
    · rw [if_neg hke] at hl
      have hn1 : (Dc.keys (Dc.all s)).Nodup := by rw [Dc.all_eq h1]; exact h1.nodup
      exact h2 e ((Dc.look_mem hn1 e.1 e.2).1 hl)
  · obtain ⟨_, _, s3, s4, s5⟩ := hS
    unfold Dc.set
    split
    · unfold Dc.every
      simp only [List.length_map]
      omega
    · have := grow_len (n := (Dc.all (Dc.step h s)).length) (N := N + 1) (s := Dc.step h s) (by omega) (by omega) (by omega)
      exact lay_len this
theorem set_mem {h : ByteArray → Nat} {w : World} {r : Roles} {b seed n : Nat} {s : Dc.St ByteArray Nat} {key : ByteArray} {t g cap p gc cc : Nat} {T : Dc.Tab ByteArray Nat} {x v : Nat} {c : List Ent} (hI : Dc.Inv h s) (hD : Dct w r b seed n s) (hT : (t = 0 ∧ T = s.old) ∨ (t = 1 ∧ T = s.young)) (hTb : Tb w r t (.slice (some ⟨g, 0, none⟩) T.length cap) T) (hfc : w.cell? ⟨b, 2 + t, none⟩ = some (.slice (some ⟨g, 0, none⟩) T.length cap))
    (hc : T[h key % T.length]? = some c) (hp : c.reverse[p]? = some (key, x)) (hv : w.cell? ⟨g, h key % T.length, none⟩ = some (.slice (some ⟨gc, 0, none⟩) c.length cc)) (hC : Chn w (.slice (some ⟨gc, 0, none⟩) c.length cc) c) (hr : r gc = (3 + t, h key % T.length)) :
    Dct (w.setCell ⟨gc, p * 2 + 1, none⟩ (.float .f64 v)) r b seed n (Dc.every (Dc.alter key v) s) ∧ Fr w r (w.setCell ⟨gc, p * 2 + 1, none⟩ (.float .f64 v)) r := by
  have hcm : c ∈ T := List.mem_of_getElem? hc
  have hxm : (key, x) ∈ c := List.mem_reverse.1 (List.mem_of_getElem? hp)
  have hnd := chain_nodup hI (T := T) (hT.imp (fun h => h.2) (fun h => h.2)) hcm
  have hC' := chn_set (v := v) hC hp
  rw [alter_at hnd hp] at hC'
  have hfx : ∀ c : List Ent, (∀ e ∈ c, e.1 ≠ key) → Dc.alter key v c = c := fun c hcx => map_same (fun e he => if_neg (hcx e he))
  have hk : ∀ k, k ≠ gc → (w.setCell ⟨gc, p * 2 + 1, none⟩ (.float .f64 v)).heap[k]? = w.heap[k]? := fun k hk => Below.heap_setCell _ _ _ _ hk
  have hsz : (w.setCell ⟨gc, p * 2 + 1, none⟩ (.float .f64 v)).heap.size = w.heap.size := by simp [World.setCell]
  have hT' := hTb.swap hc hv hC' (fun k e => by cases e; exact hr) (fun k _ e => hk k (fun e' => e (by rw [e']; rfl)))
  obtain ⟨d1, d2, ov, yv, d3, d4, d5⟩ := hD
  have hbc : b ≠ gc := fun e => by rw [← e, d2] at hr; simp at hr; omega
  refine ⟨?_, ⟨rfl, rfl, rfl⟩, by rw [hsz]; exact Nat.le_refl _, fun k _ h0 => ⟨hk k (fun e => by rw [e, hr] at h0; simp at h0), h0⟩⟩
  rcases hT with ⟨rfl, rfl⟩ | ⟨rfl, rfl⟩
  · rw [every_old hI _ hfx hc hxm]
    have eqv : ov = .slice (some ⟨g, 0, none⟩) s.old.length cap := Option.some.inj ((five d3).2.2.1.symm.trans hfc)
    rw [eqv] at d3
    exact ⟨fun k hk' => by rw [hsz]; exact d1 k hk', d2, _, yv, (hk b hbc).trans d3, hT', d5.kept (fun k _ hr' => ⟨hk k (fun e => by rw [e, hr] at hr'; simp at hr'), rfl⟩)⟩
  · rw [every_young hI _ hfx hc hxm]
    have eqv : yv = .slice (some ⟨g, 0, none⟩) s.young.length cap := Option.some.inj ((five d3).2.2.2.1.symm.trans hfc)
    rw [eqv] at d3
    exact ⟨fun k hk' => by rw [hsz]; exact d1 k hk', d2, ov, _, (hk b hbc).trans d3, d4.kept (fun k _ hr' => ⟨hk k (fun e => by rw [e, hr] at hr'; simp at hr'), rfl⟩), hT'⟩
theorem push_mem {h : ByteArray → Nat} {w w' : World} {r r' : Roles} {b seed n t g cap : Nat} {s : Dc.St ByteArray Nat} {T : Dc.Tab ByteArray Nat} {e : Ent} (hD : Dct w r b seed n s) (hT : (t = 0 ∧ T = s.old) ∨ (t = 1 ∧ T = s.young)) (hfc : w.cell? ⟨b, 2 + t, none⟩ = some (.slice (some ⟨g, 0, none⟩) T.length cap))
    (hT' : Tb w' r' t (.slice (some ⟨g, 0, none⟩) T.length cap) (Dc.push h T e)) (hTr : Tr t w r w' r') :
    Dct (w'.setCell ⟨b, 1, none⟩ (.int .i64 ((n + 1 : Nat) : Int))) r' b seed (n + 1) (if t = 0 then { s with old := Dc.push h s.old e } else { s with young := Dc.push h s.young e }) ∧ Fr w r (w'.setCell ⟨b, 1, none⟩ (.int .i64 ((n + 1 : Nat) : Int))) r' := by
  obtain ⟨d1, d2, ov, yv, d3, d4, d5⟩ := hD
  obtain ⟨a1, a2, a3, a4, _⟩ := hTr
  have hbl := d1 b (by rw [d2]; simp)
  have ht : t ≤ 1 := by rcases hT with ⟨rfl, _⟩ | ⟨rfl, _⟩ <;> omega
  obtain ⟨b1, b2⟩ := a3 b hbl (by rw [d2]; simp; omega) (by rw [d2]; simp; omega)
  have hsz : (w'.setCell ⟨b, 1, none⟩ (.int .i64 ((n + 1 : Nat) : Int))).heap.size = w'.heap.size := by simp [World.setCell]
  have hnb : ∀ k, r k ≠ (5, 0) → k ≠ b := fun k h1 h2 => h1 (by rw [h2]; exact d2)
  have hrest : ∀ k, r' k ≠ (0, 0) → k < (w'.setCell ⟨b, 1, none⟩ (.int .i64 ((n + 1 : Nat) : Int))).heap.size := fun k hk => by
    rw [hsz]
    rcases a4 k hk with h' | ⟨_, h'⟩
    · have := d1 k h'; omega
    · exact h'
  have hT2 : Tb (w'.setCell ⟨b, 1, none⟩ (.int .i64 ((n + 1 : Nat) : Int))) r' t (.slice (some ⟨g, 0, none⟩) T.length cap) (Dc.push h T e) :=
    hT'.kept (fun k _ hrk => ⟨Below.heap_setCell _ _ _ _ (fun e => by have e : k = b := e; rw [e, b2, d2] at hrk; simp at hrk; omega), rfl⟩)
  have keepT : ∀ {u : Nat} {tv : Value} {U : Dc.Tab ByteArray Nat}, u ≤ 1 → u ≠ t → Tb w r u tv U → Tb (w'.setCell ⟨b, 1, none⟩ (.int .i64 ((n + 1 : Nat) : Int))) r' u tv U := fun hu hne hU =>
    hU.kept (fun k hk hrk => by
      obtain ⟨c1, c2⟩ := a3 k hk (by omega) (by omega)
      exact ⟨(Below.heap_setCell _ _ _ _ (hnb k (fun e => by rw [e] at hrk; simp at hrk; omega))).trans c1, c2⟩)
  refine ⟨?_, a1, by rw [hsz]; exact a2, fun k hk h0 => ?_⟩
  · rcases hT with ⟨rfl, rfl⟩ | ⟨rfl, rfl⟩
    · rw [if_pos rfl]
      have eqv : ov = .slice (some ⟨g, 0, none⟩) s.old.length cap := Option.some.inj ((five d3).2.2.1.symm.trans hfc)
      rw [eqv] at d3
      exact ⟨hrest, b2.trans d2, _, yv, cells_setCell (b1.trans d3), hT2, keepT (by omega) (by omega) d5⟩
    · rw [if_neg (by omega)]
      have eqv : yv = .slice (some ⟨g, 0, none⟩) s.young.length cap := Option.some.inj ((five d3).2.2.2.1.symm.trans hfc)
      rw [eqv] at d3
      exact ⟨hrest, b2.trans d2, ov, _, cells_setCell (b1.trans d3), keepT (by omega) (by omega) d4, hT2⟩
  · obtain ⟨c1, c2⟩ := a3 k hk (by rw [h0]; simp; omega) (by rw [h0]; simp; omega)
    exact ⟨(Below.heap_setCell _ _ _ _ (hnb k (fun e => by rw [h0] at e; cases e))).trans c1, c2.trans h0⟩
end Go.Proofs.YtmgeaanbgjbkcaaGreat.DF

namespace Go.Proofs.YtmgeaanbgjbkcaaGreat.DF
open Go.RowKit Go.Shelf
theorem info_chn : (Tryz.prog.info? 285).map (fun i => (i.zero, i.size, i.bytes)) = some (some (.slice none 0 0), 1, 24) := by kernel_rfl
theorem made_at {z : Value} {n i : Nat} (h : i < n) : ((madeCells #[z] n).toList)[i]? = some z := by
  have hl : i < (madeCells #[z] n).toList.length := by rw [Array.length_toList, size_madeCells]; exact h
  rw [List.getElem?_eq_getElem hl]
  simp [madeCells, Nat.mod_one]
theorem make_tab (w : World) (r : Roles) (t n : Nat) (hn : n ≤ 5400000000000) :
    ∃ w', (Instr.makeSlice 248 (.int .i64 (n : Int)) (.int .i64 (n : Int))).run Tryz.prog w = .ok (.slice (some ⟨w.heap.size, 0, none⟩) n n) w' ∧ Tb w' (role r (.slice (some ⟨w.heap.size, 0, none⟩) n n) (1 + t, 0)) t (.slice (some ⟨w.heap.size, 0, none⟩) n n) (List.replicate n []) ∧ w.grownBy w' none ∧ w.heap.size < w'.heap.size := by
  obtain ⟨i0, hi0, hz0, hz1, hz2⟩ := info_parts info_chn
  obtain ⟨w', h1, h2, h3⟩ := run_make_full (P := Tryz.prog) w 0 248 285 i0 (.slice none 0 0) 1 Tryz.underlying248 hi0 hz0 hz1 .i64 .i64 n (by rw [hz2]; omega) (by unfold maxLen; omega) (Nat.zero_le _)
  refine ⟨w', h1, ⟨_, by rw [List.length_replicate]; exact h2, fun k e => ?_, fun i c hc => ?_⟩, h3, own_lt h2 rfl⟩
  · unfold role; rw [if_pos e]
  · obtain ⟨hi, rfl⟩ : i < n ∧ c = [] := by
      rw [List.getElem?_replicate] at hc
      split at hc
      · cases hc; exact ⟨by assumption, rfl⟩
      · cases hc
    refine ⟨.slice none 0 0, ?_, ⟨rfl, .inl ⟨rfl, rfl⟩⟩, fun k e => by cases e⟩
    rw [Nat.mul_one]
    exact made_at hi
theorem role_same {r : Roles} {v : Value} {x : Nat × Nat} {k : Nat} (h : v.ownBlock ≠ some k) : role r v x k = r k := by unfold role; rw [if_neg h]
theorem new_old {w w1 : World} {r : Roles} {b seed n : Nat} {s : Dc.St ByteArray Nat} {tv yv ov : Value} {T : Dc.Tab ByteArray Nat} (hD : Dct w r b seed n s) (hb : w.heap[b]? = some (.cells #[.int .u64 seed, .int .i64 n, ov, yv, .int .i64 s.pos] 250 (0, 0))) (hy : Tb w r 1 yv s.young)
    (hg : w.grownBy w1 none) (hT : Tb w1 (role r tv (1 + 0, 0)) 0 tv T) (htv : tv.ownBlock = some w.heap.size) (hlt : w.heap.size < w1.heap.size) :
    Dct (w1.setCell ⟨b, 2, none⟩ tv) (role r tv (1 + 0, 0)) b seed n { s with old := T } ∧ Fr w r (w1.setCell ⟨b, 2, none⟩ tv) (role r tv (1 + 0, 0)) := by
  have hrb := hD.2.1
  have hbl := hD.1 b (by rw [hrb]; simp)
  have hold : ∀ k, k < w.heap.size → role r tv (1 + 0, 0) k = r k := fun k hk => role_same (by rw [htv]; intro e; cases e; omega)
  have hsz : (w1.setCell ⟨b, 2, none⟩ tv).heap.size = w1.heap.size := by simp [World.setCell]
  refine ⟨⟨fun k hk => ?_, by rw [hold b hbl]; exact hrb, tv, yv, cells_setCell ((hg.block b hbl (by simp)).trans hb), ?_, ?_⟩, ⟨hg.os, hg.tape, hg.output⟩, by rw [hsz]; omega, fun k hk hr => ⟨?_, by rw [hold k hk]; exact hr⟩⟩
  · rw [hsz]
    by_cases e : tv.ownBlock = some k
    · rw [htv] at e; cases e; exact hlt
    · rw [role_same e] at hk; have := hD.1 k hk; omega
  · refine hT.kept (fun k _ hr => ⟨Below.heap_setCell _ _ _ _ (fun e => ?_), rfl⟩)
    have e : k = b := e
    rw [e, hold b hbl, hrb] at hr; simp at hr
  · refine hy.kept (fun k hk hr => ⟨?_, hold k hk⟩)
    rw [Below.heap_setCell _ _ _ _ (fun e => by have e : k = b := e; rw [e, hrb] at hr; simp at hr)]
    exact hg.block k hk (by simp)
  · rw [Below.heap_setCell _ _ _ _ (fun e => by have e : k = b := e; rw [e, hrb] at hr; simp at hr)]
    exact hg.block k hk (by simp)
theorem new_young {w w1 : World} {r : Roles} {b seed n : Nat} {s : Dc.St ByteArray Nat} {tv yv ov : Value} {T : Dc.Tab ByteArray Nat} (hD : Dct w r b seed n s) (hb : w.heap[b]? = some (.cells #[.int .u64 seed, .int .i64 n, ov, yv, .int .i64 s.pos] 250 (0, 0))) (ho : Tb w r 0 ov s.old)
    (hg : w.grownBy w1 none) (hT : Tb w1 (role r tv (1 + 1, 0)) 1 tv T) (htv : tv.ownBlock = some w.heap.size) (hlt : w.heap.size < w1.heap.size) :
    Dct (w1.setCell ⟨b, 3, none⟩ tv) (role r tv (1 + 1, 0)) b seed n { s with young := T } ∧ Fr w r (w1.setCell ⟨b, 3, none⟩ tv) (role r tv (1 + 1, 0)) := by
  have hrb := hD.2.1
  have hbl := hD.1 b (by rw [hrb]; simp)
  have hold : ∀ k, k < w.heap.size → role r tv (1 + 1, 0) k = r k := fun k hk => role_same (by rw [htv]; intro e; cases e; omega)
  have hsz : (w1.setCell ⟨b, 3, none⟩ tv).heap.size = w1.heap.size := by simp [World.setCell]
  refine ⟨⟨fun k hk => ?_, by rw [hold b hbl]; exact hrb, ov, tv, cells_setCell ((hg.block b hbl (by simp)).trans hb), ?_, ?_⟩, ⟨hg.os, hg.tape, hg.output⟩, by rw [hsz]; omega, fun k hk hr => ⟨?_, by rw [hold k hk]; exact hr⟩⟩
  · rw [hsz]
    by_cases e : tv.ownBlock = some k
    · rw [htv] at e; cases e; exact hlt
    · rw [role_same e] at hk; have := hD.1 k hk; omega
  · refine ho.kept (fun k hk hr => ⟨?_, hold k hk⟩)
    rw [Below.heap_setCell _ _ _ _ (fun e => by have e : k = b := e; rw [e, hrb] at hr; simp at hr)]
    exact hg.block k hk (by simp)
  · refine hT.kept (fun k _ hr => ⟨Below.heap_setCell _ _ _ _ (fun e => ?_), rfl⟩)
    have e : k = b := e
    rw [e, hold b hbl, hrb] at hr; simp at hr
  · rw [Below.heap_setCell _ _ _ _ (fun e => by have e : k = b := e; rw [e, hrb] at hr; simp at hr)]
    exact hg.block k hk (by simp)
theorem movingT (w : World) (b : Nat) (bo : Option Addr) (n cb : Nat) (h : w.cell? ⟨b, 3, none⟩ = some (.slice bo n cb)) (hn : 0 < n) :
    Calls Tryz.prog 220 #[.pointer (some ⟨b, 0, none⟩)] w fun e w' => e = .returned (.bool true) ∧ w' = w := by
  have := moving_any w b bo n cb h
  rw [decide_eq_true hn] at this
  exact this
set_option maxRecDepth 100000 in
theorem grow_any {h : ByteArray → Nat} {seed : Nat} (w : World) (r : Roles) (b n : Nat) (s : Dc.St ByteArray Nat) (hD : Dct w r b seed n s) (hI : Dc.Inv h s) (hn : s.old = [] → n = 0) (hm0 : n ≤ 2600000000000) :
    Calls Tryz.prog 219 #[.pointer (some ⟨b, 0, none⟩)] w fun x w' => x = .returned (.tuple #[]) ∧ ∃ r', Dct w' r' b seed n (Dc.grow n s) ∧ Fr w r w' r' := by
  obtain ⟨ao, ca, bo, cb, h4, h5, h3⟩ := hD.cells
  obtain ⟨c0, c1, c2, c3, c4, cf⟩ := five h3
  have hbl := hD.1 b (by rw [hD.2.1]; simp)
  have hneb : ¬ b = w.heap.size := by omega
  have HD := keep hD
  have H3 := keep h3
  have H4 := keep h4
  have H5 := keep h5
  by_cases ho : s.old = []
  · have hy : s.young = [] := Classical.byContradiction fun hh => by have := hI.move hh; rw [ho] at this; simp at this
    have hp := hI.rest hy
    have hn0 := hn ho
    subst hn0
    have hg : Dc.grow 0 s = { s with old := List.replicate 4 [] } := by
      unfold Dc.grow; rw [if_pos (by rw [ho]; rfl)]; cases s; simp only at hy hp; rw [hy, hp]
    have ol : s.old.length = 0 := by rw [ho]; rfl
    have yl : s.young.length = 0 := by rw [hy]; rfl
    rw [ol] at c2
    rw [yl] at c3
    obtain ⟨w1, m1, m2, m3, m4⟩ := make_tab w r 0 4 (by omega)
    have m1 : (Instr.makeSlice 248 (.int .i64 4) (.int .i64 4)).run Tryz.prog w = .ok (.slice (some ⟨w.heap.size, 0, none⟩) 4 4) w1 := m1
    obtain ⟨q1, q2⟩ := new_old HD.out H3.out H5.out m3 m2 rfl m4
    have Q1 := keep q1
    have Q2 := keep q2
    have d2 : (w1.setCell ⟨b, 2, none⟩ (.slice (some ⟨w.heap.size, 0, none⟩) 4 4)).heap[b]? = _ := cells_setCell ((m3.block b hbl (by simp)).trans h3)
    obtain ⟨k0, k1, k2, k3, k4, kf⟩ := five (v2 := .slice (some ⟨w.heap.size, 0, none⟩) 4 4) d2
    rw [yl] at k3
    have m0 : w1.cell? ⟨b, 2, none⟩ = some (.slice ao 0 ca) := (m3.cell (a := ⟨b, 2, none⟩) c2 (by simp))
    have f0 : w1.frozen? ⟨b, 2, none⟩ = false := by rw [World.frozen?_of_block (w := w) (a := ⟨b, 2, none⟩) (m3.block b hbl (by simp))]; exact cf 2
    clear hD hI h3 h4 h5 c0 c1 c3 c4 cf q1 q2 m2 m3 m4 d2 k0 k4 kf ho hy hp hn ol yl hm0
    generalize hW : w1.setCell ⟨b, 2, none⟩ (.slice (some ⟨w.heap.size, 0, none⟩) 4 4) = W at *
    go_enter Tryz.func219, Tryz.ntmps219
    go_wp2_with fail
    clear hW m0 f0 m1 c2
    have k1 : W.cell? ⟨b, 1, none⟩ = some (.int .i64 0) := k1
    go_quiet (first | (go_at_call 220; refine Calls.quiet_of_same (moving_any _ b bo 0 cb (by simpa using k3))))
    go_wp2
    go_end0
    exact ⟨rfl, _, by rw [hg]; exact Q1.out.below (below_drewN (Below.refl _ _) _), Q2.out.trans (Fr.of_below (below_drewN (Below.refl _ _) _))⟩
  · have hol : 0 < s.old.length := by cases hs : s.old with | nil => exact absurd hs ho | cons _ _ => simp
    have e0 : ((s.old.length : Int) == 0) = false := beq_eq_false_iff_ne.2 (by omega)
    by_cases hy : s.young = []
    · have yl : s.young.length = 0 := by rw [hy]; rfl
      have hp := hI.rest hy
      rw [yl] at c3
      by_cases hge : s.old.length ≤ n
      · have hg : Dc.grow n s = { s with young := List.replicate (2 * s.old.length) [] } := by
          unfold Dc.grow
          rw [if_neg (by rw [Dc.empty_iff]; exact ho), if_pos (by rw [hy]; simp; exact hge)]
          cases s; simp only at hp; rw [hp]
        obtain ⟨L, hL⟩ : ∃ L, s.old.length = L := ⟨_, rfl⟩
        rw [hL] at c2 hol e0 hge hg
        have HL := keep hL
        have f3 := cf 3
        have hge' : (L : Int) ≤ (n : Int) := by omega
        have hw2 : IntKind.i64.wrap (2 * (L : Int)) = 2 * (L : Int) := by rw [IntKind.wrap_i64]; omega
        have hm2 : L ≤ 2600000000000 := by omega
        clear hD hI h3 h4 h5 c0 c4 cf ho hy hp hn yl hL hge hm0
        go_enter Tryz.func219, Tryz.ntmps219
        go_wp2_with fail
        go_quiet (first | (go_at_call 220; refine Calls.quiet_of_same (moving_any _ b bo 0 cb (by simpa using c3))))
        obtain ⟨w1, m1, m2, m3, m4⟩ := make_tab (w.drewN nq) r 1 (2 * L) (by omega)
        have d3 : w1.cell? ⟨b, 3, none⟩ = some (.slice bo 0 cb) := m3.cell (a := ⟨b, 3, none⟩) (by exact c3) (by simp)
        have g3 : w1.frozen? ⟨b, 3, none⟩ = false := by rw [World.frozen?_of_block (w := w.drewN nq) (a := ⟨b, 3, none⟩) (m3.block b hbl (by simp))]; exact f3
        have HM2 := keep m2
        have HM3 := keep m3
        clear m2 m3 f3
        have m1' : (Instr.makeSlice 248 (.int .i64 (2 * (L : Int))) (.int .i64 (2 * (L : Int)))).run Tryz.prog (w.drewN nq) = .ok (.slice (some ⟨w.heap.size, 0, none⟩) (2 * L) (2 * L)) w1 := by
          have := m1
          rw [Int.natCast_mul] at this
          exact this
        clear m1
        go_wp2
        go_end0
        obtain ⟨q1, q2⟩ := new_young (HD.out.below (below_drewN (Below.refl _ _) nq)) H3.out (H4.out.kept (fun k _ _ => ⟨rfl, rfl⟩)) HM3.out HM2.out rfl m4
        rw [← hg] at q1
        exact ⟨rfl, _, q1, (Fr.of_below (below_drewN (Below.refl _ _) nq)).trans q2⟩
      · have hg : Dc.grow n s = s := by
          unfold Dc.grow
          rw [if_neg (by rw [Dc.empty_iff]; exact ho), if_neg (by rw [hy]; simp; omega)]
        obtain ⟨L, hL⟩ : ∃ L, s.old.length = L := ⟨_, rfl⟩
        rw [hL] at c2 hol e0 hge
        have hge' : ¬ (L : Int) ≤ (n : Int) := by omega
        clear hD hI h3 h4 h5 c0 c4 cf ho hy hp hn yl hL
        go_enter Tryz.func219, Tryz.ntmps219
        go_wp2_with fail
        go_quiet (first | (go_at_call 220; refine Calls.quiet_of_same (moving_any _ b bo 0 cb (by simpa using c3))))
        go_wp2
        go_end0
        exact ⟨rfl, _, by rw [hg]; exact HD.out.below (below_drewN (Below.refl _ _) _), Fr.of_below (below_drewN (Below.refl _ _) _)⟩
    · have hyl : 0 < s.young.length := by cases hs : s.young with | nil => exact absurd hs hy | cons _ _ => simp
      have hg : Dc.grow n s = s := by
        unfold Dc.grow
        rw [if_neg (by rw [Dc.empty_iff]; exact ho), if_neg (by rw [Bool.and_eq_true, Dc.empty_iff]; exact fun hh => hy hh.1)]
      obtain ⟨L, hL⟩ : ∃ L, s.old.length = L := ⟨_, rfl⟩
      rw [hL] at c2 hol e0
      obtain ⟨Y, hY⟩ : ∃ Y, s.young.length = Y := ⟨_, rfl⟩
      rw [hY] at c3 hyl
      have hd : decide (0 < Y) = true := decide_eq_true hyl
      clear hD hI h3 h4 h5 c0 c4 cf ho hy hn hL hY
      go_enter Tryz.func219, Tryz.ntmps219
      go_wp2_with fail
      go_quiet (first | (go_at_call 220; refine Calls.quiet_of_same (movingT _ b bo Y cb (by simpa using c3) hyl)))
      go_wp2
      go_end0
      exact ⟨rfl, _, by rw [hg]; exact HD.out.below (below_drewN (Below.refl _ _) _), Fr.of_below (below_drewN (Below.refl _ _) _)⟩
end Go.Proofs.YtmgeaanbgjbkcaaGreat.DF

namespace Go.Proofs.YtmgeaanbgjbkcaaGreat.DF
open Go.RowKit Go.Shelf
theorem size_run {P : Program} (w : World) (e : TypeId) (i : TypeInfo) (hi : P.info? e = some i) : (sizeOf e).run P w = .ok i.size w := by simp [sizeOf, typeInfo, hi]
theorem flat_take (l : List Ent) (p : Nat) : (l.take p).flatMap enE = (l.flatMap enE).take (p * 2) := by
  induction l generalizing p with
  | nil => simp
  | cons a l ih =>
    cases p with
    | zero => simp
    | succ p =>
      rw [List.take_succ_cons, List.flatMap_cons, List.flatMap_cons, ih, show (p + 1) * 2 = (enE a).length + p * 2 by simp [enE]; omega, List.take_length_add_append]
theorem flat_drop (l : List Ent) (p : Nat) : (l.drop p).flatMap enE = (l.flatMap enE).drop (p * 2) := by
  induction l generalizing p with
  | nil => simp
  | cons a l ih =>
    cases p with
    | zero => simp
    | succ p =>
      rw [List.drop_succ_cons, List.flatMap_cons, ih, show (p + 1) * 2 = (enE a).length + p * 2 by simp [enE]; omega, List.drop_length_add_append]
end Go.Proofs.YtmgeaanbgjbkcaaGreat.DF

namespace Go.Proofs.YtmgeaanbgjbkcaaGreat.DF
open Go.RowKit Go.Shelf
def Dd (h : ByteArray → Nat) (N : Nat) (w : World) (r : Roles) (b seed : Nat) (s : Dc.St ByteArray Nat) : Prop := Dct w r b seed (Dc.all s).length s ∧ Okd h N s
theorem Dd.kept {h : ByteArray → Nat} {N : Nat} {w w' : World} {r : Roles} {b seed : Nat} {s : Dc.St ByteArray Nat} (hd : Dd h N w r b seed s) (hs : w.heap.size ≤ w'.heap.size) (hk : ∀ k, k < w.heap.size → r k ≠ (0, 0) → w'.heap[k]? = w.heap[k]?) : Dd h N w' r b seed s := ⟨hd.1.kept hs hk, hd.2⟩
theorem Dd.below {h : ByteArray → Nat} {N : Nat} {w w' : World} {r : Roles} {b seed : Nat} {s : Dc.St ByteArray Nat} (hd : Dd h N w r b seed s) (hb : Below w.heap.size w w') : Dd h N w' r b seed s := ⟨hd.1.below hb, hd.2⟩
theorem new_any (h : ByteArray → Nat) (w : World) (seed N : Nat) :
    Calls Tryz.prog 127 #[.int .u64 seed] w fun e w' => e = .returned (.pointer (some ⟨w.heap.size, 0, none⟩)) ∧ Below w.heap.size w w' ∧ w'.heap.size = w.heap.size + 1 ∧ Dd h N w' (fun k => if k = w.heap.size then (5, 0) else (0, 0)) w.heap.size seed Dc.none0 := by
  go_enter Tryz.func127, Tryz.ntmps127
  go_wp2
  go_ret
  refine ⟨rfl, (Below.refl _ w).alloc (Nat.le_refl _) _, by simp, ⟨fun k hk => ?_, by simp, .slice none 0 0, .slice none 0 0, heap_alloc_new _ _, Tb.new, Tb.new⟩, okd_none h N⟩
  by_cases e : k = w.heap.size
  · rw [e]; simp
  · simp [e] at hk
theorem len_any (w : World) (r : Roles) (b seed n : Nat) (s : Dc.St ByteArray Nat) (hD : Dct w r b seed n s) :
    Calls Tryz.prog 177 #[.pointer (some ⟨b, 0, none⟩)] w fun e w' => e = .returned (.int .i64 n) ∧ w' = w := by
  obtain ⟨ao, ca, bo, cb, h4, h5, h3⟩ := hD.cells
  obtain ⟨c0, c1, c2, c3, c4, cf⟩ := five h3
  clear hD h4 h5 h3 c0 c2 c3 c4 cf
  go_enter Tryz.func177, Tryz.ntmps177
  go_wp2
  go_ret
  exact ⟨rfl, rfl⟩
end Go.Proofs.YtmgeaanbgjbkcaaGreat.DF

namespace Go.Proofs.YtmgeaanbgjbkcaaGreat.DF
open Go.RowKit Go.Shelf
theorem Dd.step {h : ByteArray → Nat} {seed N : Nat} (hH : HashIs seed h) {w : World} {r : Roles} {b : Nat} {s : Dc.St ByteArray Nat} (hd : Dd h N w r b seed s) (hN : N ≤ 2600000000000) :
    Calls Tryz.prog 213 #[.pointer (some ⟨b, 0, none⟩)] w fun x w' => x = .returned (.tuple #[]) ∧ ∃ r', Dd h N w' r' b seed (Dc.step h s) ∧ Fr w r w' r' := by
  obtain ⟨h1, h2, h3, h4, h5⟩ := id hd.2
  have ha := Dc.all_eq h1
  refine (step_any hH w r b _ s hd.1 h1 (by unfold maxLen; omega) (by unfold maxLen; omega) (fun x hx => h2 x (by rw [ha]; exact List.mem_append.2 (.inl hx))) (by rw [ha, List.length_append] at h3; omega)).mono ?_
  rintro _ w' ⟨rfl, r', q1, q2⟩
  obtain ⟨o1, o2⟩ := okd_step hd.2
  exact ⟨rfl, r', ⟨by rw [o2]; exact q1, o1⟩, q2⟩
theorem Dd.seek {h : ByteArray → Nat} {seed N : Nat} (hH : HashIs seed h) {w : World} {r : Roles} {b : Nat} {s : Dc.St ByteArray Nat} (hd : Dd h N w r b seed s) (hN : N ≤ 2600000000000) {key : ByteArray} (hk : key.size ≤ maxLen) :
    Calls Tryz.prog 214 #[.pointer (some ⟨b, 0, none⟩), .string key] w fun e w' => Sought w r b s h key e ∧ Below w.heap.size w w' := by
  obtain ⟨h1, h2, h3, h4, h5⟩ := id hd.2
  exact seek_any hH w r b _ s key hd.1 hk (by unfold maxLen; omega) (by unfold maxLen; omega)
theorem found_at {h : ByteArray → Nat} {w w2 : World} {r : Roles} {key : ByteArray} {t g cap p : Nat} {T : Dc.Tab ByteArray Nat} {x : Nat} (hT0 : 0 < T.length) (hTb : Tb w r t (.slice (some ⟨g, 0, none⟩) T.length cap) T) (hp : (Dc.chain h T key).reverse[p]? = some (key, x)) (hb : Below w.heap.size w w2) :
    ∃ c gc cc, T[h key % T.length]? = some c ∧ c.reverse[p]? = some (key, x) ∧ p < c.length ∧ w2.cell? ⟨g, h key % T.length, none⟩ = some (.slice (some ⟨gc, 0, none⟩) c.length cc) ∧ Chn w2 (.slice (some ⟨gc, 0, none⟩) c.length cc) c ∧ r gc = (3 + t, h key % T.length) ∧ w2.cell? ⟨gc, p * 2 + 1, none⟩ = some (.float .f64 x) ∧ w2.frozen? ⟨gc, p * 2 + 1, none⟩ = false ∧ w2.frozen? ⟨g, h key % T.length, none⟩ = false ∧ gc < w.heap.size ∧ g < w.heap.size ∧ h key % T.length < T.length := by
  have hlt : h key % T.length < T.length := Nat.mod_lt _ hT0
  obtain ⟨c, hc⟩ : ∃ c, T[h key % T.length]? = some c := ⟨_, List.getElem?_eq_getElem hlt⟩
  have hch : Dc.chain h T key = c := by unfold Dc.chain; rw [hc]; rfl
  rw [hch] at hp
  have hpl : p < c.length := by have := (List.getElem?_eq_some_iff.1 hp).1; simpa using this
  obtain ⟨v, hv1, hv2, hv3⟩ := hTb.at hc
  have hgl : g < w.heap.size := by obtain ⟨_, a1, _, _⟩ := hTb; exact own_lt a1 rfl
  rcases hv2.form with ⟨_, hh⟩ | ⟨gc, cc, rfl, hgc, _, _⟩
  · rw [hh] at hpl; simp at hpl
  · have hC2 : Chn w2 (.slice (some ⟨gc, 0, none⟩) c.length cc) c := own_kept hv2 (fun k hk => hb.block k (own_lt hv2 hk))
    refine ⟨c, gc, cc, hc, hp, hpl, (hb.cell (p := ⟨g, h key % T.length, none⟩) hgl).trans hv1, hC2, hv3 gc rfl, (hC2.at hp).2, ?_, ?_, hgc, hgl, hlt⟩
    · rcases hC2.2 with ⟨e, _⟩ | ⟨g', cap', cur, e, _, hh, _⟩
      · cases e
      · cases e; simp [World.frozen?, hh]
    · rw [World.frozen?_of_block (w := w) (a := ⟨g, h key % T.length, none⟩) (hb.block g hgl)]; exact hTb.free _
def got (o : Option Nat) : Value := .tuple #[.float .f64 (o.getD 0), .bool o.isSome]
set_option maxRecDepth 100000 in
theorem get_any {h : ByteArray → Nat} {seed N : Nat} (hH : HashIs seed h) (w : World) (r : Roles) (b : Nat) (s : Dc.St ByteArray Nat) (key : ByteArray) (hd : Dd h N w r b seed s) (hN : N ≤ 2600000000000) (hk : key.size ≤ maxLen) :
    Calls Tryz.prog 207 #[.pointer (some ⟨b, 0, none⟩), .string key] w fun e w' => e = .returned (got (Dc.look key (Dc.all s))) ∧ ∃ r', Dd h N w' r' b seed (Dc.step h s) ∧ Fr w r w' r' := by
  have mS := hd.step hH hN
  have hl : Dc.look key (Dc.all (Dc.step h s)) = Dc.look key (Dc.all s) := by
    obtain ⟨q1, q2⟩ := Dc.step_inv hd.2.1
    exact Dc.look_perm (by rw [Dc.all_eq q1]; exact q1.nodup) q2 key
  have HL := keep hl
  clear hd hl
  have sf : ∀ (x : Nat) (w : World) (a : Addr), (store a (.float .f64 x)).run Tryz.prog w = stored Tryz.prog w a (.float .f64 x) .plain := fun x w a => run_store _ w a _ _ rfl
  go_enter Tryz.func207, Tryz.ntmps207
  go_wp2_with fail
  refine mS.mono ?_
  rintro _ w1 ⟨rfl, r1, hd1, hf1⟩
  have mF := hd1.seek hH hN hk
  have HD := keep hd1
  have HF := keep hf1
  clear mS hd1 hf1
  go_wp2_with fail
  refine mF.mono ?_
  rintro _ w2 ⟨hs, hb⟩
  have HB := keep hb
  clear mF
  rcases hs with ⟨rfl, h0, h1⟩ | ⟨t, g, cap, p, T, x, hT, hT0, hTb, hfc, hp, rfl⟩
  · have hn := look_missed HD.out.2.1 h0 h1
    rw [HL.out] at hn
    have HN := keep hn
    clear h0 h1 hb hn
    go_wp2
    refine bodyPost_ret (results_tmp2 rfl _ _ _) rfl ?_
    exact ⟨by rw [HN.out]; rfl, r1, HD.out.below HB.out, HF.out.trans (Fr.of_below HB.out)⟩
  · obtain ⟨c, gc, cc, q1, q2, q3, q4, q5, q6, q7, _, _, _, _, q8⟩ := found_at hT0 hTb hp hb
    have hn := look_found HD.out.2.1 (T := T) (hT.imp (fun h => h.2) (fun h => h.2)) (List.mem_of_getElem? q1) (List.mem_reverse.1 (List.mem_of_getElem? q2))
    rw [HL.out] at hn
    have HN := keep hn
    clear hT hT0 hTb hfc hp hb q1 q2 q5 q6 hn
    generalize h key % T.length = i at *
    have i0 : (0 : Int) ≤ (i : Int) := by omega
    have i1 : (i : Int) < (T.length : Int) := by omega
    have p0 : (0 : Int) ≤ (p : Int) := by omega
    have p1 : (p : Int) < (c.length : Int) := by omega
    go_wp2
    refine bodyPost_ret (results_tmp2 rfl _ _ _) rfl ?_
    exact ⟨by rw [HN.out]; rfl, r1, HD.out.below HB.out, HF.out.trans (Fr.of_below HB.out)⟩
theorem set_some {h : ByteArray → Nat} {s : Dc.St ByteArray Nat} {key : ByteArray} {x v : Nat} (hl : Dc.look key (Dc.all (Dc.step h s)) = some x) : Dc.set h s key v = (Dc.every (Dc.alter key v) (Dc.step h s), false) := by unfold Dc.set; rw [hl]
theorem set_none {h : ByteArray → Nat} {s : Dc.St ByteArray Nat} {key : ByteArray} {v : Nat} (hl : Dc.look key (Dc.all (Dc.step h s)) = none) : Dc.set h s key v = (Dc.lay h (Dc.grow (Dc.all (Dc.step h s)).length (Dc.step h s)) (key, v), true) := by unfold Dc.set; rw [hl]
theorem all_none {h : ByteArray → Nat} {s : Dc.St ByteArray Nat} (hI : Dc.Inv h s) (ho : s.old = []) : (Dc.all s).length = 0 := by
  have hy : s.young = [] := Classical.byContradiction fun hh => by have := hI.move hh; rw [ho] at this; simp at this
  rw [Dc.all_eq hI, ho, hy]; rfl
theorem dct_push {h : ByteArray → Nat} {seed : Nat} (hH : HashIs seed h) {w : World} {r : Roles} {b n t g cap : Nat} {s : Dc.St ByteArray Nat} {T : Dc.Tab ByteArray Nat} {e : Ent} (hD : Dct w r b seed n s) (hT : (t = 0 ∧ T = s.old) ∨ (t = 1 ∧ T = s.young)) (hTb : Tb w r t (.slice (some ⟨g, 0, none⟩) T.length cap) T) (hfc : w.cell? ⟨b, 2 + t, none⟩ = some (.slice (some ⟨g, 0, none⟩) T.length cap))
    (hT0 : 0 < T.length) (hm : T.length ≤ maxLen) (hk : e.1.size ≤ maxLen) (hlen : ∀ c ∈ T, c.length ≤ 2600000000000) :
    Calls Tryz.prog 221 #[.slice (some ⟨g, 0, none⟩) T.length cap, .int .u64 seed, .agg #[.string e.1, .float .f64 e.2]] w fun x w' => x = .returned (.tuple #[]) ∧ w'.cell? ⟨b, 1, none⟩ = some (.int .i64 n) ∧ w'.frozen? ⟨b, 1, none⟩ = false ∧
      ∃ r', Dct (w'.setCell ⟨b, 1, none⟩ (.int .i64 ((n + 1 : Nat) : Int))) r' b seed (n + 1) (if t = 0 then { s with old := Dc.push h s.old e } else { s with young := Dc.push h s.young e }) ∧ Fr w r (w'.setCell ⟨b, 1, none⟩ (.int .i64 ((n + 1 : Nat) : Int))) r' := by
  refine (push_any hH w r t g cap T e hTb hT0 hm hk hD.1 hlen).mono ?_
  rintro _ w' ⟨rfl, r', q1, q2⟩
  obtain ⟨ao, ca, bo, cb, h4, h5, h3⟩ := hD.cells
  have ht : t ≤ 1 := by rcases hT with ⟨rfl, _⟩ | ⟨rfl, _⟩ <;> omega
  have hb : w'.heap[b]? = _ := (q2.2.2.1 b (hD.1 b (by rw [hD.2.1]; simp)) (by rw [hD.2.1]; simp; omega) (by rw [hD.2.1]; simp; omega)).1.trans h3
  obtain ⟨_, c1, _, _, _, cf⟩ := five hb
  exact ⟨rfl, c1, cf 1, r', push_mem hD hT hfc q1 q2⟩
theorem set_len {h : ByteArray → Nat} {s : Dc.St ByteArray Nat} {key : ByteArray} {v : Nat} (_ : Dc.Inv h (Dc.step h s)) (hI : Dc.Inv h s) (hn : Dc.look key (Dc.all (Dc.step h s)) = none) : (Dc.all (Dc.set h s key v).1).length = (Dc.all (Dc.step h s)).length + 1 := by
  obtain ⟨q1, q2⟩ := Dc.step_inv hI
  rw [(Dc.set_inv hI key v).2.2.2, q2.length_eq, ← Dc.look_perm (by rw [Dc.all_eq q1]; exact q1.nodup) q2 key, hn]
  rfl
theorem set_end {h : ByteArray → Nat} {N n b seed : Nat} {s s3 : Dc.St ByteArray Nat} {key : ByteArray} {v : Nat} {w W : World} {r r4 : Roles} (e1 : Dc.set h s key v = (Dc.lay h s3 (key, v), true)) (e3 : (Dc.set h s key v).2 = (Dc.look key (Dc.all s)).isNone) (e2 : Okd h (N + 1) (Dc.set h s key v).1) (e5 : (Dc.all (Dc.set h s key v).1).length = n + 1) (hq : Dct W r4 b seed (n + 1) (Dc.lay h s3 (key, v))) (hF : Fr w r W r4) :
    Ending.returned (.bool true) = .returned (.bool (Dc.look key (Dc.all s)).isNone) ∧ ∃ r', Dd h (N + 1) W r' b seed (Dc.set h s key v).1 ∧ Fr w r W r' := by
  refine ⟨by rw [← e3, e1], r4, ⟨?_, e2⟩, hF⟩
  rw [e5, e1]
  exact hq
set_option maxRecDepth 100000 in
theorem set_any {h : ByteArray → Nat} {seed N : Nat} (hH : HashIs seed h) (w : World) (r : Roles) (b : Nat) (s : Dc.St ByteArray Nat) (key : ByteArray) (v : Nat) (hd : Dd h N w r b seed s) (hN : N + 1 ≤ 2600000000000) (hk : key.size ≤ maxLen) :
    Calls Tryz.prog 156 #[.pointer (some ⟨b, 0, none⟩), .string key, .float .f64 v] w fun e w' => e = .returned (.bool (Dc.look key (Dc.all s)).isNone) ∧ ∃ r', Dd h (N + 1) w' r' b seed (Dc.set h s key v).1 ∧ Fr w r w' r' := by
  have mS := hd.step hH (by omega)
  have hset := (Dc.set_inv hd.2.1 key v).2.1
  have hO := okd_set hd.2 hk v
  have HST := keep hset
  have HO := keep hO
  have HI := keep hd.2.1
  clear hd hset hO
  have sf : ∀ (x : Nat) (w : World) (a : Addr), (store a (.float .f64 x)).run Tryz.prog w = stored Tryz.prog w a (.float .f64 x) .plain := fun x w a => run_store _ w a _ _ rfl
  go_enter Tryz.func156, Tryz.ntmps156
  go_wp2_with fail
  refine mS.mono ?_
  rintro _ w1 ⟨rfl, r1, hd1, hf1⟩
  have mF := hd1.seek hH (by omega) hk
  have HD := keep hd1
  have HF := keep hf1
  clear mS hd1 hf1
  go_wp2_with fail
  refine mF.mono ?_
  rintro _ w2 ⟨hs, hb⟩
  have HB := keep hb
  clear mF
  rcases hs with ⟨rfl, h0, h1⟩ | ⟨t, g, cap, p, T, x, hT, hT0, hTb, hfc, hp, rfl⟩
  · have hn := look_missed HD.out.2.1 h0 h1
    have HSN := keep (set_none (v := v) hn)
    have hlen := set_len (v := v) HD.out.2.1 HI.out hn
    have HLEN := keep hlen
    clear h0 h1 hb hn hlen
    have hD2 := HD.out.below HB.out
    obtain ⟨i1, i2, i3, i4, i5⟩ := id hD2.2
    have mG := grow_any w2 r1 b _ _ hD2.1 i1 (all_none i1) (by omega)
    obtain ⟨g1, g2, g3⟩ := Dc.grow_inv i1 (Dc.all (Dc.step h s)).length
    have gl := grow_len (n := (Dc.all (Dc.step h s)).length) (N := N) (s := Dc.step h s) (by omega) i4 i5
    have hcl : ∀ T : Dc.Tab ByteArray Nat, T = (Dc.grow (Dc.all (Dc.step h s)).length (Dc.step h s)).old ∨ T = (Dc.grow (Dc.all (Dc.step h s)).length (Dc.step h s)).young → ∀ c ∈ T, c.length ≤ 2600000000000 := fun T hT c hc => by
      have a1 := (List.sublist_flatten_of_mem hc).length_le
      have a2 : (Dc.all (Dc.grow (Dc.all (Dc.step h s)).length (Dc.step h s))).length ≤ N := by rw [g2]; omega
      rw [Dc.all_eq g1, List.length_append] at a2
      rcases hT with rfl | rfl <;> omega
    have HS3 := keep (show ∃ s3, s3 = Dc.grow (Dc.all (Dc.step h s)).length (Dc.step h s) from ⟨_, rfl⟩)
    have HNL := keep i3
    obtain ⟨s3, hs3⟩ := HS3.out
    obtain ⟨n, hn⟩ : ∃ n, n = (Dc.all (Dc.step h s)).length := ⟨_, rfl⟩
    rw [← hn] at hs3 mG gl g3 hcl HSN HNL HLEN
    rw [← hs3] at mG gl g3 hcl HSN
    have hol : 0 < s3.old.length := by cases hh : s3.old with | nil => exact absurd hh g3 | cons _ _ => simp
    have hdn : n ≤ N := HNL.out
    clear hs3 hn HS3 hD2 i1 i2 i3 i4 i5 g1 g2 g3 HD
    go_wp2_with fail
    refine mG.mono ?_
    rintro _ w3 ⟨rfl, r3, hD3, hF3⟩
    have HF3 := keep hF3
    obtain ⟨ao, ca, bo, cb, h4, h5, h3⟩ := hD3.cells
    obtain ⟨c0, c1, c2, c3, c4, cf⟩ := five h3
    clear mG hF3 cf h3 c1 c4
    have mM := moving_any w3 b bo _ cb c3
    have hww : IntKind.i64.wrap ((n : Int) + 1) = ((n + 1 : Nat) : Int) := by rw [IntKind.wrap_i64]; omega
    by_cases hy : s3.young = []
    · obtain ⟨g, ca', e4, hrg, hgl⟩ := h4.form hol
      have e5 : ao = some ⟨g, 0, none⟩ := by injection e4
      subst e5
      clear e4
      have mP := dct_push hH (e := (key, v)) hD3 (.inl ⟨rfl, rfl⟩) h4 c2 hol (by unfold maxLen; omega) hk (hcl _ (.inl rfl))
      have hlay : Dc.lay h s3 (key, v) = { s3 with old := Dc.push h s3.old (key, v) } := by unfold Dc.lay; rw [if_pos (by rw [hy]; rfl)]
      have HLAY := keep hlay
      have hyl : decide (0 < s3.young.length) = false := by rw [hy]; rfl
      rw [hyl] at mM
      clear hD3 h4 h5 hcl hlay hyl c3 hy
      dsimp only at mP
      go_wp2_with fail
      refine mM.mono ?_
      rintro _ w' ⟨rfl, hw'⟩
      subst hw'
      go_wp2_with fail
      refine mP.mono ?_
      rintro _ w4 ⟨rfl, c1, f1, r4, q1, q2⟩
      have Q1 := keep q1
      have Q2 := keep q2
      clear mP mM q1 q2 c0 c2
      go_wp2
      go_ret
      have e4 : Dct _ r4 b seed (n + 1) { s3 with old := Dc.push h s3.old (key, v) } := Q1.out
      rw [← HLAY.out] at e4
      exact set_end HSN.out HST.out HO.out HLEN.out e4 (((HF.out.trans (Fr.of_below HB.out)).trans HF3.out).trans Q2.out)
    · have hyl : 0 < s3.young.length := by cases hh : s3.young with | nil => exact absurd hh hy | cons _ _ => simp
      obtain ⟨g, ca', e4, hrg, hgl⟩ := h5.form hyl
      have e5 : bo = some ⟨g, 0, none⟩ := by injection e4
      subst e5
      clear e4
      have mP := dct_push hH (e := (key, v)) hD3 (.inr ⟨rfl, rfl⟩) h5 c3 hyl (by unfold maxLen; omega) hk (hcl _ (.inr rfl))
      have hlay : Dc.lay h s3 (key, v) = { s3 with young := Dc.push h s3.young (key, v) } := by unfold Dc.lay; rw [if_neg (by rw [Dc.empty_iff]; exact hy)]
      have HLAY := keep hlay
      rw [decide_eq_true hyl] at mM
      clear hD3 h4 h5 hcl hlay hy
      dsimp only at mP
      go_wp2_with fail
      refine mM.mono ?_
      rintro _ w' ⟨rfl, hw'⟩
      subst hw'
      go_wp2_with fail
      refine mP.mono ?_
      rintro _ w4 ⟨rfl, c1, f1, r4, q1, q2⟩
      have Q1 := keep q1
      have Q2 := keep q2
      clear mP mM q1 q2 c0 c2 c3
      go_wp2
      go_ret
      have e4 : Dct _ r4 b seed (n + 1) { s3 with young := Dc.push h s3.young (key, v) } := Q1.out
      rw [← HLAY.out] at e4
      exact set_end HSN.out HST.out HO.out HLEN.out e4 (((HF.out.trans (Fr.of_below HB.out)).trans HF3.out).trans Q2.out)
  · obtain ⟨c, gc, cc, q1, q2, q3, q4, q5, q6, q7, q9, _, _, _, q8⟩ := found_at hT0 hTb hp hb
    have hn := look_found HD.out.2.1 (T := T) (hT.imp (fun h => h.2) (fun h => h.2)) (List.mem_of_getElem? q1) (List.mem_reverse.1 (List.mem_of_getElem? q2))
    have hD2 := HD.out.below HB.out
    have hTb2 : Tb w2 r1 t (.slice (some ⟨g, 0, none⟩) T.length cap) T := hTb.kept (fun k hk _ => ⟨HB.out.block k hk, rfl⟩)
    have hbl := HD.out.1.1 b (by rw [HD.out.1.2.1]; simp)
    have hM := keep (set_mem (v := v) hD2.2.1 hD2.1 hT hTb2 ((HB.out.cell (p := ⟨b, 2 + t, none⟩) hbl).trans hfc) q1 q2 q4 q5 q6)
    have HSS := keep (set_some (v := v) hn)
    clear hT hT0 hTb hfc hp hb q1 q2 q5 q6 hn hD2 hTb2 hbl
    generalize h key % T.length = i at *
    have i0 : (0 : Int) ≤ (i : Int) := by omega
    have i1 : (i : Int) < (T.length : Int) := by omega
    have p0 : (0 : Int) ≤ (p : Int) := by omega
    have p1 : (p : Int) < (c.length : Int) := by omega
    go_wp2
    go_ret
    have e1 := HSS.out
    have e2 := HO.out
    have e3 := HST.out
    rw [e1] at e2 e3
    have e3 : false = (Dc.look key (Dc.all s)).isNone := e3
    refine ⟨by rw [← e3]; rfl, r1, ?_, (HF.out.trans (Fr.of_below HB.out)).trans hM.out.2⟩
    rw [e1]
    refine ⟨?_, e2⟩
    have e5 : (Dc.all (Dc.every (Dc.alter key v) (Dc.step h s))).length = (Dc.all (Dc.step h s)).length := by
      rw [(Dc.alter_inv HD.out.2.1 key v).2]; unfold Dc.alter; rw [List.length_map]
    show Dct _ _ _ _ (Dc.all (Dc.every (Dc.alter key v) (Dc.step h s))).length _
    rw [e5]
    exact hM.out.1
end Go.Proofs.YtmgeaanbgjbkcaaGreat.DF

namespace Go.Proofs.YtmgeaanbgjbkcaaGreat.DF
open Go.RowKit Go.Shelf
def ln (s : Dc.St ByteArray Nat) : Nat := (Dc.all s).length
theorem len_t {h : ByteArray → Nat} {seed N : Nat} (w : World) (r : Roles) (b : Nat) (s : Dc.St ByteArray Nat) (hd : Dd h N w r b seed s) :
    Calls Tryz.prog 177 #[.pointer (some ⟨b, 0, none⟩)] w fun e w' => e = .returned (.int .i64 (ln s)) ∧ w' = w := len_any w r b seed _ s hd.1
end Go.Proofs.YtmgeaanbgjbkcaaGreat.DF
