/-
  Contracts over this program: the calls of a dict as those of a table; what each statement asks first (wakes).
-/
import Derived.Test.YtapehjlpiobeaaaDictCalls
/-
  Contracts over this program: Get, Set, Delete.
-/
namespace Go.Proofs.Ytapehjlpiobeaaa
open Go.RowKit Go.Shelf
/-- what a step may ask -/
theorem Dd.step {h : ByteArray → Nat} {seed N : Nat} (hH : HashIs seed h) {w : World} {r : Roles} {b : Nat} {s : Dc.St ByteArray Nat} (hd : Dd h N w r b seed s) (hN : N ≤ 2600000000000) :
    Calls Try.prog 45 #[.pointer (some ⟨b, 0, none⟩)] w fun x w' => x = .returned (.tuple #[]) ∧ ∃ r', Dd h N w' r' b seed (Dc.step h s) ∧ Fr w r w' r' := by
  obtain ⟨h1, h2, h3, h4, h5⟩ := id hd.2
  have ha := Dc.all_eq h1
  refine (step_any hH w r b _ s hd.1 h1 (by unfold maxLen; omega) (by unfold maxLen; omega) (fun x hx => h2 x (by rw [ha]; exact List.mem_append.2 (.inl hx))) (by rw [ha, List.length_append] at h3; omega)).mono ?_
  rintro _ w' ⟨rfl, r', q1, q2⟩
  obtain ⟨o1, o2⟩ := okd_step hd.2
  exact ⟨rfl, r', ⟨by rw [o2]; exact q1, o1⟩, q2⟩
theorem Dd.seek {h : ByteArray → Nat} {seed N : Nat} (hH : HashIs seed h) {w : World} {r : Roles} {b : Nat} {s : Dc.St ByteArray Nat} (hd : Dd h N w r b seed s) (hN : N ≤ 2600000000000) {key : ByteArray} (hk : key.size ≤ maxLen) :
    Calls Try.prog 46 #[.pointer (some ⟨b, 0, none⟩), .string key] w fun e w' => Sought w r b s h key e ∧ Below w.heap.size w w' := by
  obtain ⟨h1, h2, h3, h4, h5⟩ := id hd.2
  exact seek_any hH w r b _ s key hd.1 hk (by unfold maxLen; omega) (by unfold maxLen; omega)
/-- where a key was found: its chain in the memory -/
theorem found_at {h : ByteArray → Nat} {w w2 : World} {r : Roles} {key : ByteArray} {t g cap p : Nat} {T : Dc.Tab ByteArray Nat} {x : Nat} (hT0 : 0 < T.length) (hTb : Tb w r t (.slice (some ⟨g, 0, none⟩) T.length cap) T) (hp : (Dc.chain h T key).reverse[p]? = some (key, x)) (hb : Below w.heap.size w w2) :
    ∃ c gc cc, T[h key % T.length]? = some c ∧ c.reverse[p]? = some (key, x) ∧ p < c.length ∧ w2.cell? ⟨g, h key % T.length, none⟩ = some (.slice (some ⟨gc, 0, none⟩) c.length cc) ∧ Chn w2 (.slice (some ⟨gc, 0, none⟩) c.length cc) c ∧ r gc = (3 + t, h key % T.length) ∧ w2.cell? ⟨gc, p * 2 + 1, none⟩ = some (.float .f64 x) ∧ w2.frozen? ⟨gc, p * 2 + 1, none⟩ = false ∧ w2.frozen? ⟨g, h key % T.length, none⟩ = false ∧ gc < w.heap.size ∧ g < w.heap.size ∧ h key % T.length < T.length := by
  have hlt : h key % T.length < T.length := Nat.mod_lt _ hT0
  obtain ⟨c, hc⟩ : ∃ c, T[h key % T.length]? = some c := ⟨_, List.getElem?_eq_getElem hlt⟩
  have hch : Dc.chain h T key = c := by unfold Dc.chain; rw [hc]; rfl
  rw [hch] at hp
  have hpl : p < c.length := by have := (List.getElem?_eq_some_iff.1 hp).1; simpa using this
  obtain ⟨v, hv1, hv2, hv3⟩ := hTb.at hc
  have hgl : g < w.heap.size := by obtain ⟨_, a1, _, _⟩ := hTb; exact own_lt a1 rfl
  rcases hv2.form with ⟨_, hh⟩ | ⟨gc, cc, rfl, hgc, _, _⟩
  · rw [hh] at hpl; simp at hpl
  · have hC2 : Chn w2 (.slice (some ⟨gc, 0, none⟩) c.length cc) c := own_kept hv2 (fun k hk => hb.block k (own_lt hv2 hk))
    refine ⟨c, gc, cc, hc, hp, hpl, (hb.cell (p := ⟨g, h key % T.length, none⟩) hgl).trans hv1, hC2, hv3 gc rfl, (hC2.at hp).2, ?_, ?_, hgc, hgl, hlt⟩
    · rcases hC2.2 with ⟨e, _⟩ | ⟨g', cap', cur, e, _, hh, _⟩
      · cases e
      · cases e; simp [World.frozen?, hh]
    · rw [World.frozen?_of_block (w := w) (a := ⟨g, h key % T.length, none⟩) (hb.block g hgl)]; exact hTb.free _
/-- how a table tells what lies under a key -/
def got (o : Option Nat) : Value := .tuple #[.float .f64 (o.getD 0), .bool o.isSome]
set_option maxRecDepth 100000 in
set_option maxHeartbeats 1000000 in
theorem get_any {h : ByteArray → Nat} {seed N : Nat} (hH : HashIs seed h) (w : World) (r : Roles) (b : Nat) (s : Dc.St ByteArray Nat) (key : ByteArray) (hd : Dd h N w r b seed s) (hN : N ≤ 2600000000000) (hk : key.size ≤ maxLen) :
    Calls Try.prog 43 #[.pointer (some ⟨b, 0, none⟩), .string key] w fun e w' => e = .returned (got (Dc.look key (Dc.all s))) ∧ ∃ r', Dd h N w' r' b seed (Dc.step h s) ∧ Fr w r w' r' := by
  have mS := hd.step hH hN
  have hl : Dc.look key (Dc.all (Dc.step h s)) = Dc.look key (Dc.all s) := by
    obtain ⟨q1, q2⟩ := Dc.step_inv hd.2.1
    exact Dc.look_perm (by rw [Dc.all_eq q1]; exact q1.nodup) q2 key
  have HL := keep hl
  clear hd hl
  have sf : ∀ (x : Nat) (w : World) (a : Addr), (store a (.float .f64 x)).run Try.prog w = stored Try.prog w a (.float .f64 x) .plain := fun x w a => run_store _ w a _ _ rfl
  go_enter Try.func43, Try.ntmps43
  go_wp2_with fail
  refine mS.mono ?_
  rintro _ w1 ⟨rfl, r1, hd1, hf1⟩
  have mF := hd1.seek hH hN hk
  have HD := keep hd1
  have HF := keep hf1
  clear mS hd1 hf1
  go_wp2_with fail
  refine mF.mono ?_
  rintro _ w2 ⟨hs, hb⟩
  have HB := keep hb
  clear mF
  rcases hs with ⟨rfl, h0, h1⟩ | ⟨t, g, cap, p, T, x, hT, hT0, hTb, hfc, hp, rfl⟩
  · have hn := look_missed HD.out.2.1 h0 h1
    rw [HL.out] at hn
    have HN := keep hn
    clear h0 h1 hb hn
    go_wp2
    refine bodyPost_ret (results_tmp2 rfl _ _ _) rfl ?_
    exact ⟨by rw [HN.out]; rfl, r1, HD.out.below HB.out, HF.out.trans (Fr.of_below HB.out)⟩
  · obtain ⟨c, gc, cc, q1, q2, q3, q4, q5, q6, q7, _, _, _, _, q8⟩ := found_at hT0 hTb hp hb
    have hn := look_found HD.out.2.1 (T := T) (hT.imp (fun h => h.2) (fun h => h.2)) (List.mem_of_getElem? q1) (List.mem_reverse.1 (List.mem_of_getElem? q2))
    rw [HL.out] at hn
    have HN := keep hn
    clear hT hT0 hTb hfc hp hb q1 q2 q5 q6 hn
    generalize h key % T.length = i at *
    have i0 : (0 : Int) ≤ (i : Int) := by omega
    have i1 : (i : Int) < (T.length : Int) := by omega
    have p0 : (0 : Int) ≤ (p : Int) := by omega
    have p1 : (p : Int) < (c.length : Int) := by omega
    go_wp2
    refine bodyPost_ret (results_tmp2 rfl _ _ _) rfl ?_
    exact ⟨by rw [HN.out]; rfl, r1, HD.out.below HB.out, HF.out.trans (Fr.of_below HB.out)⟩
theorem set_some {h : ByteArray → Nat} {s : Dc.St ByteArray Nat} {key : ByteArray} {x v : Nat} (hl : Dc.look key (Dc.all (Dc.step h s)) = some x) : Dc.set h s key v = (Dc.every (Dc.alter key v) (Dc.step h s), false) := by unfold Dc.set; rw [hl]
theorem set_none {h : ByteArray → Nat} {s : Dc.St ByteArray Nat} {key : ByteArray} {v : Nat} (hl : Dc.look key (Dc.all (Dc.step h s)) = none) : Dc.set h s key v = (Dc.lay h (Dc.grow (Dc.all (Dc.step h s)).length (Dc.step h s)) (key, v), true) := by unfold Dc.set; rw [hl]
theorem all_none {h : ByteArray → Nat} {s : Dc.St ByteArray Nat} (hI : Dc.Inv h s) (ho : s.old = []) : (Dc.all s).length = 0 := by
  have hy : s.young = [] := Classical.byContradiction fun hh => by have := hI.move hh; rw [ho] at this; simp at this
  rw [Dc.all_eq hI, ho, hy]; rfl
/-- an entry is pushed into a table of a dict -/
theorem dct_push {h : ByteArray → Nat} {seed : Nat} (hH : HashIs seed h) {w : World} {r : Roles} {b n t g cap : Nat} {s : Dc.St ByteArray Nat} {T : Dc.Tab ByteArray Nat} {e : Ent} (hD : Dct w r b seed n s) (hT : (t = 0 ∧ T = s.old) ∨ (t = 1 ∧ T = s.young)) (hTb : Tb w r t (.slice (some ⟨g, 0, none⟩) T.length cap) T) (hfc : w.cell? ⟨b, 2 + t, none⟩ = some (.slice (some ⟨g, 0, none⟩) T.length cap))
    (hT0 : 0 < T.length) (hm : T.length ≤ maxLen) (hk : e.1.size ≤ maxLen) (hlen : ∀ c ∈ T, c.length ≤ 2600000000000) :
    Calls Try.prog 49 #[.slice (some ⟨g, 0, none⟩) T.length cap, .int .u64 seed, .agg #[.string e.1, .float .f64 e.2]] w fun x w' => x = .returned (.tuple #[]) ∧ w'.cell? ⟨b, 1, none⟩ = some (.int .i64 n) ∧ w'.frozen? ⟨b, 1, none⟩ = false ∧
      ∃ r', Dct (w'.setCell ⟨b, 1, none⟩ (.int .i64 ((n + 1 : Nat) : Int))) r' b seed (n + 1) (if t = 0 then { s with old := Dc.push h s.old e } else { s with young := Dc.push h s.young e }) ∧ Fr w r (w'.setCell ⟨b, 1, none⟩ (.int .i64 ((n + 1 : Nat) : Int))) r' := by
  refine (push_any hH w r t g cap T e hTb hT0 hm hk hD.1 hlen).mono ?_
  rintro _ w' ⟨rfl, r', q1, q2⟩
  obtain ⟨ao, ca, bo, cb, h4, h5, h3⟩ := hD.cells
  have ht : t ≤ 1 := by rcases hT with ⟨rfl, _⟩ | ⟨rfl, _⟩ <;> omega
  have hb : w'.heap[b]? = _ := (q2.2.2.1 b (hD.1 b (by rw [hD.2.1]; simp)) (by rw [hD.2.1]; simp; omega) (by rw [hD.2.1]; simp; omega)).1.trans h3
  obtain ⟨_, c1, _, _, _, cf⟩ := five hb
  exact ⟨rfl, c1, cf 1, r', push_mem hD hT hfc q1 q2⟩
theorem set_len {h : ByteArray → Nat} {s : Dc.St ByteArray Nat} {key : ByteArray} {v : Nat} (_ : Dc.Inv h (Dc.step h s)) (hI : Dc.Inv h s) (hn : Dc.look key (Dc.all (Dc.step h s)) = none) : (Dc.all (Dc.set h s key v).1).length = (Dc.all (Dc.step h s)).length + 1 := by
  obtain ⟨q1, q2⟩ := Dc.step_inv hI
  rw [(Dc.set_inv hI key v).2.2.2, q2.length_eq, ← Dc.look_perm (by rw [Dc.all_eq q1]; exact q1.nodup) q2 key, hn]
  rfl
theorem set_end {h : ByteArray → Nat} {N n b seed : Nat} {s s3 : Dc.St ByteArray Nat} {key : ByteArray} {v : Nat} {w W : World} {r r4 : Roles} (e1 : Dc.set h s key v = (Dc.lay h s3 (key, v), true)) (e3 : (Dc.set h s key v).2 = (Dc.look key (Dc.all s)).isNone) (e2 : Okd h (N + 1) (Dc.set h s key v).1) (e5 : (Dc.all (Dc.set h s key v).1).length = n + 1) (hq : Dct W r4 b seed (n + 1) (Dc.lay h s3 (key, v))) (hF : Fr w r W r4) :
    Ending.returned (.bool true) = .returned (.bool (Dc.look key (Dc.all s)).isNone) ∧ ∃ r', Dd h (N + 1) W r' b seed (Dc.set h s key v).1 ∧ Fr w r W r' := by
  refine ⟨by rw [← e3, e1], r4, ⟨?_, e2⟩, hF⟩
  rw [e5, e1]
  exact hq
set_option maxRecDepth 100000 in
set_option maxHeartbeats 1000000 in
theorem set_any {h : ByteArray → Nat} {seed N : Nat} (hH : HashIs seed h) (w : World) (r : Roles) (b : Nat) (s : Dc.St ByteArray Nat) (key : ByteArray) (v : Nat) (hd : Dd h N w r b seed s) (hN : N + 1 ≤ 2600000000000) (hk : key.size ≤ maxLen) :
    Calls Try.prog 24 #[.pointer (some ⟨b, 0, none⟩), .string key, .float .f64 v] w fun e w' => e = .returned (.bool (Dc.look key (Dc.all s)).isNone) ∧ ∃ r', Dd h (N + 1) w' r' b seed (Dc.set h s key v).1 ∧ Fr w r w' r' := by
  have mS := hd.step hH (by omega)
  have hset := (Dc.set_inv hd.2.1 key v).2.1
  have hO := okd_set hd.2 hk v
  have HST := keep hset
  have HO := keep hO
  have HI := keep hd.2.1
  clear hd hset hO
  have sf : ∀ (x : Nat) (w : World) (a : Addr), (store a (.float .f64 x)).run Try.prog w = stored Try.prog w a (.float .f64 x) .plain := fun x w a => run_store _ w a _ _ rfl
  go_enter Try.func24, Try.ntmps24
  go_wp2_with fail
  refine mS.mono ?_
  rintro _ w1 ⟨rfl, r1, hd1, hf1⟩
  have mF := hd1.seek hH (by omega) hk
  have HD := keep hd1
  have HF := keep hf1
  clear mS hd1 hf1
  go_wp2_with fail
  refine mF.mono ?_
  rintro _ w2 ⟨hs, hb⟩
  have HB := keep hb
  clear mF
  rcases hs with ⟨rfl, h0, h1⟩ | ⟨t, g, cap, p, T, x, hT, hT0, hTb, hfc, hp, rfl⟩
  · have hn := look_missed HD.out.2.1 h0 h1
    have HSN := keep (set_none (v := v) hn)
    have hlen := set_len (v := v) HD.out.2.1 HI.out hn
    have HLEN := keep hlen
    clear h0 h1 hb hn hlen
    have hD2 := HD.out.below HB.out
    obtain ⟨i1, i2, i3, i4, i5⟩ := id hD2.2
    have mG := grow_any w2 r1 b _ _ hD2.1 i1 (all_none i1) (by omega)
    obtain ⟨g1, g2, g3⟩ := Dc.grow_inv i1 (Dc.all (Dc.step h s)).length
    have gl := grow_len (n := (Dc.all (Dc.step h s)).length) (N := N) (s := Dc.step h s) (by omega) i4 i5
    have hcl : ∀ T : Dc.Tab ByteArray Nat, T = (Dc.grow (Dc.all (Dc.step h s)).length (Dc.step h s)).old ∨ T = (Dc.grow (Dc.all (Dc.step h s)).length (Dc.step h s)).young → ∀ c ∈ T, c.length ≤ 2600000000000 := fun T hT c hc => by
      have a1 := (List.sublist_flatten_of_mem hc).length_le
      have a2 : (Dc.all (Dc.grow (Dc.all (Dc.step h s)).length (Dc.step h s))).length ≤ N := by rw [g2]; omega
      rw [Dc.all_eq g1, List.length_append] at a2
      rcases hT with rfl | rfl <;> omega
    have HS3 := keep (show ∃ s3, s3 = Dc.grow (Dc.all (Dc.step h s)).length (Dc.step h s) from ⟨_, rfl⟩)
    have HNL := keep i3
    obtain ⟨s3, hs3⟩ := HS3.out
    obtain ⟨n, hn⟩ : ∃ n, n = (Dc.all (Dc.step h s)).length := ⟨_, rfl⟩
    rw [← hn] at hs3 mG gl g3 hcl HSN HNL HLEN
    rw [← hs3] at mG gl g3 hcl HSN
    have hol : 0 < s3.old.length := by cases hh : s3.old with | nil => exact absurd hh g3 | cons _ _ => simp
    have hdn : n ≤ N := HNL.out
    clear hs3 hn HS3 hD2 i1 i2 i3 i4 i5 g1 g2 g3 HD
    go_wp2_with fail
    refine mG.mono ?_
    rintro _ w3 ⟨rfl, r3, hD3, hF3⟩
    have HF3 := keep hF3
    obtain ⟨ao, ca, bo, cb, h4, h5, h3⟩ := hD3.cells
    obtain ⟨c0, c1, c2, c3, c4, cf⟩ := five h3
    clear mG hF3 cf h3 c1 c4
    have mM := moving_any w3 b bo _ cb c3
    have hww : IntKind.i64.wrap ((n : Int) + 1) = ((n + 1 : Nat) : Int) := by rw [IntKind.wrap_i64]; omega
    by_cases hy : s3.young = []
    · obtain ⟨g, ca', e4, hrg, hgl⟩ := h4.form hol
      have e5 : ao = some ⟨g, 0, none⟩ := by injection e4
      subst e5
      clear e4
      have mP := dct_push hH (e := (key, v)) hD3 (.inl ⟨rfl, rfl⟩) h4 c2 hol (by unfold maxLen; omega) hk (hcl _ (.inl rfl))
      have hlay : Dc.lay h s3 (key, v) = { s3 with old := Dc.push h s3.old (key, v) } := by unfold Dc.lay; rw [if_pos (by rw [hy]; rfl)]
      have HLAY := keep hlay
      have hyl : decide (0 < s3.young.length) = false := by rw [hy]; rfl
      rw [hyl] at mM
      clear hD3 h4 h5 hcl hlay hyl c3 hy
      dsimp only at mP
      go_wp2_with fail
      refine mM.mono ?_
      rintro _ w' ⟨rfl, hw'⟩
      subst hw'
      go_wp2_with fail
      refine mP.mono ?_
      rintro _ w4 ⟨rfl, c1, f1, r4, q1, q2⟩
      have Q1 := keep q1
      have Q2 := keep q2
      clear mP mM q1 q2 c0 c2
      go_wp2
      go_ret
      have e4 : Dct _ r4 b seed (n + 1) { s3 with old := Dc.push h s3.old (key, v) } := Q1.out
      rw [← HLAY.out] at e4
      exact set_end HSN.out HST.out HO.out HLEN.out e4 (((HF.out.trans (Fr.of_below HB.out)).trans HF3.out).trans Q2.out)
    · have hyl : 0 < s3.young.length := by cases hh : s3.young with | nil => exact absurd hh hy | cons _ _ => simp
      obtain ⟨g, ca', e4, hrg, hgl⟩ := h5.form hyl
      have e5 : bo = some ⟨g, 0, none⟩ := by injection e4
      subst e5
      clear e4
      have mP := dct_push hH (e := (key, v)) hD3 (.inr ⟨rfl, rfl⟩) h5 c3 hyl (by unfold maxLen; omega) hk (hcl _ (.inr rfl))
      have hlay : Dc.lay h s3 (key, v) = { s3 with young := Dc.push h s3.young (key, v) } := by unfold Dc.lay; rw [if_neg (by rw [Dc.empty_iff]; exact hy)]
      have HLAY := keep hlay
      rw [decide_eq_true hyl] at mM
      clear hD3 h4 h5 hcl hlay hy
      dsimp only at mP
      go_wp2_with fail
      refine mM.mono ?_
      rintro _ w' ⟨rfl, hw'⟩
      subst hw'
      go_wp2_with fail
      refine mP.mono ?_
      rintro _ w4 ⟨rfl, c1, f1, r4, q1, q2⟩
      have Q1 := keep q1
      have Q2 := keep q2
      clear mP mM q1 q2 c0 c2 c3
      go_wp2
      go_ret
      have e4 : Dct _ r4 b seed (n + 1) { s3 with young := Dc.push h s3.young (key, v) } := Q1.out
      rw [← HLAY.out] at e4
      exact set_end HSN.out HST.out HO.out HLEN.out e4 (((HF.out.trans (Fr.of_below HB.out)).trans HF3.out).trans Q2.out)
  · obtain ⟨c, gc, cc, q1, q2, q3, q4, q5, q6, q7, q9, _, _, _, q8⟩ := found_at hT0 hTb hp hb
    have hn := look_found HD.out.2.1 (T := T) (hT.imp (fun h => h.2) (fun h => h.2)) (List.mem_of_getElem? q1) (List.mem_reverse.1 (List.mem_of_getElem? q2))
    have hD2 := HD.out.below HB.out
    have hTb2 : Tb w2 r1 t (.slice (some ⟨g, 0, none⟩) T.length cap) T := hTb.kept (fun k hk _ => ⟨HB.out.block k hk, rfl⟩)
    have hbl := HD.out.1.1 b (by rw [HD.out.1.2.1]; simp)
    have hM := keep (set_mem (v := v) hD2.2.1 hD2.1 hT hTb2 ((HB.out.cell (p := ⟨b, 2 + t, none⟩) hbl).trans hfc) q1 q2 q4 q5 q6)
    have HSS := keep (set_some (v := v) hn)
    clear hT hT0 hTb hfc hp hb q1 q2 q5 q6 hn hD2 hTb2 hbl
    generalize h key % T.length = i at *
    have i0 : (0 : Int) ≤ (i : Int) := by omega
    have i1 : (i : Int) < (T.length : Int) := by omega
    have p0 : (0 : Int) ≤ (p : Int) := by omega
    have p1 : (p : Int) < (c.length : Int) := by omega
    go_wp2
    go_ret
    have e1 := HSS.out
    have e2 := HO.out
    have e3 := HST.out
    rw [e1] at e2 e3
    have e3 : false = (Dc.look key (Dc.all s)).isNone := e3
    refine ⟨by rw [← e3]; rfl, r1, ?_, (HF.out.trans (Fr.of_below HB.out)).trans hM.out.2⟩
    rw [e1]
    refine ⟨?_, e2⟩
    have e5 : (Dc.all (Dc.every (Dc.alter key v) (Dc.step h s))).length = (Dc.all (Dc.step h s)).length := by
      rw [(Dc.alter_inv HD.out.2.1 key v).2]; unfold Dc.alter; rw [List.length_map]
    show Dct _ _ _ _ (Dc.all (Dc.every (Dc.alter key v) (Dc.step h s))).length _
    rw [e5]
    exact hM.out.1
end Go.Proofs.Ytapehjlpiobeaaa

/-
  Contracts over this program: Delete.
-/
namespace Go.Proofs.Ytapehjlpiobeaaa
open Go.RowKit Go.Shelf
theorem del_some {h : ByteArray → Nat} {s : Dc.St ByteArray Nat} {key : ByteArray} {x : Nat} (hl : Dc.look key (Dc.all (Dc.step h s)) = some x) : Dc.delete h s key = (Dc.shrink ((Dc.all (Dc.step h s)).length - 1) (Dc.every (Dc.without key) (Dc.step h s)), true) := by unfold Dc.delete; rw [hl]
theorem del_none {h : ByteArray → Nat} {s : Dc.St ByteArray Nat} {key : ByteArray} (hl : Dc.look key (Dc.all (Dc.step h s)) = none) : Dc.delete h s key = (Dc.step h s, false) := by unfold Dc.delete; rw [hl]
theorem del_len {h : ByteArray → Nat} {s : Dc.St ByteArray Nat} {key : ByteArray} {x : Nat} (hI : Dc.Inv h s) (hn : Dc.look key (Dc.all (Dc.step h s)) = some x) : (Dc.all (Dc.delete h s key).1).length = (Dc.all (Dc.step h s)).length - 1 ∧ 0 < (Dc.all (Dc.step h s)).length := by
  obtain ⟨q1, q2⟩ := Dc.step_inv hI
  have hnd : (Dc.keys (Dc.all (Dc.step h s))).Nodup := by rw [Dc.all_eq q1]; exact q1.nodup
  refine ⟨?_, List.length_pos_of_mem ((Dc.look_mem hnd key x).1 hn)⟩
  rw [(Dc.delete_inv hI key).2.2.2, q2.length_eq, ← Dc.look_perm hnd q2 key, hn]
  rfl
theorem del_end {h : ByteArray → Nat} {N n b seed : Nat} {s s3 : Dc.St ByteArray Nat} {key : ByteArray} {w W : World} {r r4 : Roles} {o : Bool} (e1 : Dc.delete h s key = (s3, o)) (e3 : (Dc.delete h s key).2 = (Dc.look key (Dc.all s)).isSome) (e2 : Okd h N (Dc.delete h s key).1) (e5 : (Dc.all (Dc.delete h s key).1).length = n) (hq : Dct W r4 b seed n s3) (hF : Fr w r W r4) :
    Ending.returned (.bool o) = .returned (.bool (Dc.look key (Dc.all s)).isSome) ∧ ∃ r', Dd h N W r' b seed (Dc.delete h s key).1 ∧ Fr w r W r' := by
  refine ⟨by rw [← e3, e1], r4, ⟨?_, e2⟩, hF⟩
  rw [e5, e1]
  exact hq
set_option maxRecDepth 100000 in
set_option maxHeartbeats 1000000 in
theorem delete_any {h : ByteArray → Nat} {seed N : Nat} (hH : HashIs seed h) (w : World) (r : Roles) (b : Nat) (s : Dc.St ByteArray Nat) (key : ByteArray) (hd : Dd h N w r b seed s) (hN : N + 1 ≤ 2600000000000) (hk : key.size ≤ maxLen) :
    Calls Try.prog 55 #[.pointer (some ⟨b, 0, none⟩), .string key] w fun e w' => e = .returned (.bool (Dc.look key (Dc.all s)).isSome) ∧ ∃ r', Dd h N w' r' b seed (Dc.delete h s key).1 ∧ Fr w r w' r' := by
  have mS := hd.step hH (by omega)
  have hset := (Dc.delete_inv hd.2.1 key).2.1
  have hO := okd_delete hd.2 key
  have HST := keep hset
  have HO := keep hO
  have HI := keep hd.2.1
  clear hd hset hO
  go_enter Try.func55, Try.ntmps55
  go_wp2_with fail
  refine mS.mono ?_
  rintro _ w1 ⟨rfl, r1, hd1, hf1⟩
  have mF := hd1.seek hH (by omega) hk
  have HD := keep hd1
  have HF := keep hf1
  clear mS hd1 hf1
  go_wp2_with fail
  refine mF.mono ?_
  rintro _ w2 ⟨hs, hb⟩
  have HB := keep hb
  clear mF
  rcases hs with ⟨rfl, h0, h1⟩ | ⟨t, g, cap, p, T, x, hT, hT0, hTb, hfc, hp, rfl⟩
  · have hn := look_missed HD.out.2.1 h0 h1
    have HSN := keep (del_none hn)
    clear h0 h1 hb hn
    go_wp2
    go_ret
    exact del_end HSN.out HST.out HO.out (by rw [HSN.out]) (HD.out.below HB.out).1 (HF.out.trans (Fr.of_below HB.out))
  · obtain ⟨c, gc, cc, q1, q2, q3, q4, q5, q6, _, _, q9, q10, q11, q8⟩ := found_at hT0 hTb hp hb
    have hn := look_found HD.out.2.1 (T := T) (hT.imp (fun h => h.2) (fun h => h.2)) (List.mem_of_getElem? q1) (List.mem_reverse.1 (List.mem_of_getElem? q2))
    have hD2 := HD.out.below HB.out
    have hTb2 : Tb w2 r1 t (.slice (some ⟨g, 0, none⟩) T.length cap) T := hTb.kept (fun k hk _ => ⟨HB.out.block k hk, rfl⟩)
    have hbl := HD.out.1.1 b (by rw [HD.out.1.2.1]; simp)
    obtain ⟨dl1, dl2⟩ := del_len HI.out hn
    have HDL := keep dl1
    have mW := without_any w2 gc cc p c q5 q3
    have hM := keep (fun (w3 : World) (ho : Only gc w2 w3) (hC : Chn w3 (.slice (some ⟨gc, 0, none⟩) (c.length - 1) cc) (c.reverse.eraseIdx p).reverse) => del_mem hD2.2.1 hD2.1 hT hTb2 ((HB.out.cell (p := ⟨b, 2 + t, none⟩) hbl).trans hfc) q1 q2 q6 ho hC)
    obtain ⟨i1, i2, i3, i4, i5⟩ := id hD2.2
    have hEI := keep (Dc.without_inv i1 key).1
    have hel : (Dc.every (Dc.without key) (Dc.step h s)).old.length ≤ 5400000000000 := by unfold Dc.every; rw [List.length_map]; omega
    have HSS := keep (del_some hn)
    have hrg : r1 g = (1 + t, 0) := by obtain ⟨_, _, a2, _⟩ := hTb; exact a2 g rfl
    have hgg : g ≠ gc := fun e => by rw [← e, hrg] at q6; simp at q6
    have hrb := HD.out.1.2.1
    have ht : t ≤ 1 := by rcases hT with ⟨rfl, _⟩ | ⟨rfl, _⟩ <;> omega
    have hbg : ¬ b = g := fun e => by rw [← e, hrb] at hrg; simp at hrg; omega
    have hbc : b ≠ gc := fun e => by rw [← e, hrb] at q6; simp at q6; omega
    obtain ⟨_, _, _, _, _, _, d3⟩ := hD2.1.cells
    obtain ⟨_, k1, _, _, _, kf⟩ := five d3
    have kf1 := kf 1
    obtain ⟨n, hnn⟩ : ∃ n, n = (Dc.all (Dc.step h s)).length := ⟨_, rfl⟩
    rw [← hnn] at HDL dl2 hM HSS k1 i3
    have hww : IntKind.i64.wrap ((n : Int) - 1) = ((n - 1 : Nat) : Int) := by rw [IntKind.wrap_i64]; omega
    clear hT hT0 hTb hfc hp hb q1 q2 q5 q6 hn hD2 hTb2 hbl dl1 i1 i2 i4 i5 d3 kf hrg hrb ht hnn
    generalize h key % T.length = i at *
    have i0 : (0 : Int) ≤ (i : Int) := by omega
    have i1 : (i : Int) < (T.length : Int) := by omega
    go_wp2_with fail
    refine mW.mono ?_
    rintro _ w3 ⟨rfl, hC3, ho3⟩
    have hM3 := hM.out w3 ho3 hC3
    have mK := shrink_any _ r1 b _ _ hM3.1 hEI.out hel (by omega)
    have u1 : w3.cell? ⟨g, i, none⟩ = some (.slice (some ⟨gc, 0, none⟩) c.length cc) := (World.cell?_of_block (w := w2) (a := ⟨g, i, none⟩) (ho3.2.2 g hgg)).trans q4
    have u2 : w3.frozen? ⟨g, i, none⟩ = false := (World.frozen?_of_block (w := w2) (a := ⟨g, i, none⟩) (ho3.2.2 g hgg)).trans q9
    have u3 : w3.cell? ⟨b, 1, none⟩ = some (.int .i64 n) := (World.cell?_of_block (w := w2) (a := ⟨b, 1, none⟩) (ho3.2.2 b hbc)).trans k1
    have u4 : w3.frozen? ⟨b, 1, none⟩ = false := (World.frozen?_of_block (w := w2) (a := ⟨b, 1, none⟩) (ho3.2.2 b hbc)).trans kf1
    have HF3 := keep hM3.2
    clear mW hM hM3 hC3 ho3 q4 q9 k1 kf1
    have hgb : ¬ g = b := fun e => hbg e.symm
    go_wp2_with fail
    refine mK.mono ?_
    rintro _ w6 ⟨rfl, r6, v1, v2⟩
    have V1 := keep v1
    have V2 := keep v2
    clear v1 v2 mK
    go_wp2
    go_ret
    exact del_end HSS.out HST.out HO.out HDL.out V1.out (((HF.out.trans (Fr.of_below HB.out)).trans HF3.out).trans V2.out)
end Go.Proofs.Ytapehjlpiobeaaa

namespace Go.Proofs.Ytapehjlpiobeaaa
open Go.RowKit Go.Shelf
/-- what lies under a key -/
def lk (s : Dc.St ByteArray Nat) (k : ByteArray) : Option Nat := Dc.look k (Dc.all s)
def ln (s : Dc.St ByteArray Nat) : Nat := (Dc.all s).length
def Setd (s s' : Dc.St ByteArray Nat) (key : ByteArray) (v : Nat) : Prop := (∀ k, lk s' k = if k = key then some v else lk s k) ∧ ln s' = ln s + (if (lk s key).isNone then 1 else 0)
def Deld (s s' : Dc.St ByteArray Nat) (key : ByteArray) : Prop := (∀ k, lk s' k = if k = key then none else lk s k) ∧ ln s' = ln s - (if (lk s key).isSome then 1 else 0)
def Samd (s s' : Dc.St ByteArray Nat) : Prop := (∀ k, lk s' k = lk s k) ∧ ln s' = ln s
theorem samd_step {h : ByteArray → Nat} {s : Dc.St ByteArray Nat} (hI : Dc.Inv h s) : Samd s (Dc.step h s) := by
  obtain ⟨q1, q2⟩ := Dc.step_inv hI
  exact ⟨fun k => Dc.look_perm (by rw [Dc.all_eq q1]; exact q1.nodup) q2 k, q2.length_eq⟩
theorem setd_of {h : ByteArray → Nat} {s : Dc.St ByteArray Nat} (hI : Dc.Inv h s) (key : ByteArray) (v : Nat) : Setd s (Dc.set h s key v).1 key v := ⟨(Dc.set_inv hI key v).2.2.1, (Dc.set_inv hI key v).2.2.2⟩
theorem deld_of {h : ByteArray → Nat} {s : Dc.St ByteArray Nat} (hI : Dc.Inv h s) (key : ByteArray) : Deld s (Dc.delete h s key).1 key := ⟨(Dc.delete_inv hI key).2.2.1, (Dc.delete_inv hI key).2.2.2⟩
theorem set_t {h : ByteArray → Nat} {seed N : Nat} (hH : HashIs seed h) (w : World) (r : Roles) (b : Nat) (s : Dc.St ByteArray Nat) (key : ByteArray) (v : Nat) (hd : Dd h N w r b seed s) (hN : N + 1 ≤ 2600000000000) (hk : key.size ≤ maxLen) :
    Calls Try.prog 24 #[.pointer (some ⟨b, 0, none⟩), .string key, .float .f64 v] w fun e w' => e = .returned (.bool (lk s key).isNone) ∧ ∃ r' s', Dd h (N + 1) w' r' b seed s' ∧ Setd s s' key v ∧ Fr w r w' r' := by
  refine (set_any hH w r b s key v hd hN hk).mono ?_
  rintro _ w' ⟨rfl, r', q1, q2⟩
  exact ⟨rfl, r', _, q1, setd_of hd.2.1 key v, q2⟩
theorem get_t {h : ByteArray → Nat} {seed N : Nat} (hH : HashIs seed h) (w : World) (r : Roles) (b : Nat) (s : Dc.St ByteArray Nat) (key : ByteArray) (hd : Dd h N w r b seed s) (hN : N ≤ 2600000000000) (hk : key.size ≤ maxLen) :
    Calls Try.prog 43 #[.pointer (some ⟨b, 0, none⟩), .string key] w fun e w' => e = .returned (got (lk s key)) ∧ ∃ r' s', Dd h N w' r' b seed s' ∧ Samd s s' ∧ Fr w r w' r' := by
  refine (get_any hH w r b s key hd hN hk).mono ?_
  rintro _ w' ⟨rfl, r', q1, q2⟩
  exact ⟨rfl, r', _, q1, samd_step hd.2.1, q2⟩
theorem del_t {h : ByteArray → Nat} {seed N : Nat} (hH : HashIs seed h) (w : World) (r : Roles) (b : Nat) (s : Dc.St ByteArray Nat) (key : ByteArray) (hd : Dd h N w r b seed s) (hN : N + 1 ≤ 2600000000000) (hk : key.size ≤ maxLen) :
    Calls Try.prog 55 #[.pointer (some ⟨b, 0, none⟩), .string key] w fun e w' => e = .returned (.bool (lk s key).isSome) ∧ ∃ r' s', Dd h N w' r' b seed s' ∧ Deld s s' key ∧ Fr w r w' r' := by
  refine (delete_any hH w r b s key hd hN hk).mono ?_
  rintro _ w' ⟨rfl, r', q1, q2⟩
  exact ⟨rfl, r', _, q1, deld_of hd.2.1 key, q2⟩
theorem len_t {h : ByteArray → Nat} {seed N : Nat} (w : World) (r : Roles) (b : Nat) (s : Dc.St ByteArray Nat) (hd : Dd h N w r b seed s) :
    Calls Try.prog 39 #[.pointer (some ⟨b, 0, none⟩)] w fun e w' => e = .returned (.int .i64 (ln s)) ∧ w' = w := len_any w r b seed _ s hd.1
theorem ln_none : ln Dc.none0 = 0 := rfl
theorem lk_none (k : ByteArray) : lk Dc.none0 k = none := rfl
def aa : ByteArray := { data := #[97] }
theorem aa_size : aa.size ≤ maxLen := by decide
end Go.Proofs.Ytapehjlpiobeaaa
