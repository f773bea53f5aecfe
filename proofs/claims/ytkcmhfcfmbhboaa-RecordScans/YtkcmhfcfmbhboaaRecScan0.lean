/-
  Contracts over this program: Scan of a record; a record, what was told so far and the pairs that were there all the while.
-/
import Derived.Test.YtkcmhfcfmbhboaaRecTab1
import Derived.Test.YtkcmhfcfmbhboaaScanCov
import Derived.Maps.AppendAt
namespace Go.Proofs.Ytkcmhfcfmbhboaa
open Go.RowKit Go.Shelf
/-- how far a cursor has come, by the table that there is -/
def far (s : Sx) (c : Nat) : Nat := Rv.rv (Nat.log2 (tbl s (smN s)).length) c
theorem far_lt {s : Sx} {A d : Nat} (hL : Lay s A d) (c : Nat) : far s c < s.old.length + s.young.length := by
  unfold far
  rw [hL.small, Nat.log2_two_pow]
  have h1 := Rv.rv_lt A c
  have h2 : 2 ^ A ≤ s.old.length + s.young.length := by
    rw [← hL.small]
    unfold tbl
    split <;> omega
  omega
/-- a call of Scan from a cursor: where it goes, what it tells -/
theorem rscan_any {h : ByteArray → Nat} {seed N : Nat} (W : World) (r : Roles) (R b : Nat) (s : Sx) (hr : Rec h N W r R b seed s) (hN : N ≤ 2100000000000) (c : Nat) (hc : c < 2 ^ 64) (cnt : Int) :
    ∃ (c' : Nat) (l : List ByteArray), Calls Try.prog 16 #[.pointer (some ⟨R, 0, none⟩), .int .u64 c, .int .i64 cnt] W (fun z w' => (∃ v', z = .returned (.tuple #[.int .u64 (c' : Nat), v']) ∧ Ks W.heap.size w' v' l) ∧ Below W.heap.size W w') ∧
      c' < 2 ^ 64 ∧ l.length ≤ 2 * N ∧ (∀ k, Has s k → Rv.plc c ≤ Rv.plc (h k) → (c' = 0 ∨ Rv.plc (h k) < Rv.plc c') → k ∈ l) ∧ (c' = 0 ∨ (far s c < far s c' ∧ far s c' < s.old.length + s.young.length ∧ 0 < l.length)) := by
  have hd := hr.1
  obtain ⟨hI, _, o1, o2, o3⟩ := hd.2
  have mD := dictionary_any hr
  have lift : ∀ (c' : Nat) (l : List ByteArray), Calls Try.prog 30 #[.pointer (some ⟨b, 0, none⟩), .int .u64 c, .int .i64 cnt] W (fun z w' => (∃ v', z = .returned (.tuple #[.int .u64 (c' : Nat), v']) ∧ Ks W.heap.size w' v' l) ∧ Below W.heap.size W w') →
      Calls Try.prog 16 #[.pointer (some ⟨R, 0, none⟩), .int .u64 c, .int .i64 cnt] W (fun z w' => (∃ v', z = .returned (.tuple #[.int .u64 (c' : Nat), v']) ∧ Ks W.heap.size w' v' l) ∧ Below W.heap.size W w') := by
    intro c' l mN
    clear hr hd
    have HC := keep hc
    clear hc hI o1 o2 o3
    go_enter Try.func16, Try.ntmps16
    go_wp2_with fail
    refine mD.mono ?_
    rintro _ w1 ⟨rfl, hw1⟩
    obtain rfl := hw1.symm
    go_wp2_with fail
    refine mN.mono ?_
    rintro _ w2 ⟨⟨v', rfl, hk⟩, hb⟩
    have HK := keep hk
    have HB := keep hb
    clear mN mD hk hb
    go_wp2
    refine bodyPost_ret (results_tmp2 rfl _ _ _) rfl ?_
    exact ⟨⟨v', rfl, HK.out⟩, HB.out⟩
  have hF := few_of hd.2 hN
  by_cases h0 : s.old.length = 0
  · refine ⟨0, [], lift 0 [] ?_, by decide, Nat.zero_le _, fun k hk => ?_, .inl rfl⟩
    · refine (next_zero W r b seed _ s hd.1 h0 c cnt).mono ?_
      rintro _ w' ⟨rfl, hb'⟩
      exact ⟨⟨_, rfl, ks_nil _ _⟩, hb'⟩
    · have := (has_mem hI).1 hk
      rw [(none_of hI h0).2] at this
      cases this
  · obtain ⟨A, d, hL, _, _⟩ := Rv.lay_of hI h0 (by omega) (by omega)
    have p0 := Rv.put_tbl hI (smN s)
    have p1 := Rv.put_tbl hI (1 - smN s)
    have hA : 2 ^ A < 2 ^ 64 := Nat.pow_lt_pow_right (by omega) (by have := hL.few; omega)
    have hak : (Rv.allk s).length ≤ N := by rw [(Rv.allk_perm hI).length_eq]; unfold Dc.keys; rw [List.length_map]; exact o1
    have hfl := Rv.from_len h s A d c
    refine ⟨_, _, lift _ _ (next_more W r b seed _ h s hd.1 hI hF A d hL (by omega) h0 c hc cnt _ (max_one cnt)), ?_, ?_, fun k hk hp hd => ?_, ?_⟩
    · exact Nat.lt_trans (Rv.scan_tells (max cnt 1).toNat hL p0 p1 (2 ^ A) c [] (Nat.le_add_left _ _)).2.1 hA
    · by_cases hz : (Rv.scanF s A d (max cnt 1).toNat (2 ^ A) c []).1 = 0
      · have := (Rv.from_end (max cnt 1).toNat hL p0 p1 c hz).length_eq
        omega
      · have := (Rv.from_step (max cnt 1).toNat hL p0 p1 c hz).2.2.length_eq
        rw [List.length_append] at this
        omega
    · exact Rv.scan_cov (max cnt 1).toNat hL p0 p1 c ((Rv.allk_perm hI).mem_iff.2 ((has_mem hI).1 hk)) hp hd
    · by_cases hz : (Rv.scanF s A d (max cnt 1).toNat (2 ^ A) c []).1 = 0
      · exact .inl hz
      · right
        refine ⟨?_, far_lt hL _, ?_⟩
        · unfold far
          rw [hL.small, Nat.log2_two_pow]
          exact (Rv.from_step (max cnt 1).toNat hL p0 p1 c hz).1
        · have := (Rv.scan_tells (max cnt 1).toNat hL p0 p1 (2 ^ A) c [] (Nat.le_add_left _ _)).2.2.1.resolve_left hz
          omega
theorem app_at (B : Nat) (w : World) (v v2 : Value) (xs ys : List ByteArray) (B2 : Nat) (h1 : Ks B w v xs) (h2 : Ks B2 w v2 ys) (hb : B ≤ w.heap.size) (hl : xs.length + ys.length ≤ 8000000000000) :
    ∃ v' w', (Builtin.append_ #[43, 43] 43 #[v, v2]).run Try.prog w = .ok v' w' ∧ Ks B w' v' (xs ++ ys) ∧ Below B w w' ∧ w.grownBy w' v.ownBlock ∧ (v'.ownBlock = v.ownBlock ∨ v'.ownBlock = some w.heap.size) := by
  obtain ⟨i0, hi0, hz0, hz1, hz2⟩ := info_parts info_strK
  have h2' := h2
  unfold Ks at h2'
  rcases h2'.2 with ⟨rfl, h0⟩ | ⟨g, cap, cur, rfl, _⟩
  · have e : ys = [] := List.length_eq_zero_iff.1 h0
    subst e
    rw [List.append_nil]
    unfold Ks at h1
    exact ⟨v, w, run_append_owned_none (P := Try.prog) (w := w) B _ _ 9 i0 1 Try.underlying43 hi0 _ xs.length _ h1, h1, Below.refl _ _, ⟨rfl, rfl, rfl, Nat.le_refl _, fun _ _ _ => rfl⟩, .inl rfl⟩
  · unfold Ks at h1 h2
    obtain ⟨v', w', r1, r2, r3, _, r5⟩ := run_append_own_at (P := Try.prog) w B 43 43 9 i0 (.string .empty) 1 16 Try.underlying43 hi0 hz0 hz1 hz2 rfl (by decide) v xs.length _ h1 ⟨g, 0, none⟩ ys.length cap (ys.map Value.string) (by simp) (fun j u hu => h2.cells (g := g) rfl j u hu) (fun u hu => by
      obtain ⟨y, _, rfl⟩ := List.mem_map.1 hu
      rfl) (by unfold maxLen; omega) (by omega) hb
    refine ⟨v', w', r1, ?_, (Below.refl B w).grown r3 hb (fun k hk => (h1.lt k hk).1), r3, r5⟩
    unfold Ks
    rw [List.length_append, List.map_append]
    exact r2
theorem ks_form {B : Nat} {w : World} {v : Value} {xs : List ByteArray} (h : Ks B w v xs) : ∃ ao cap, v = .slice ao xs.length cap ∧ (xs = [] ∨ ∃ g, ao = some ⟨g, 0, none⟩ ∧ g < w.heap.size) := by
  unfold Ks at h
  rcases h.2 with ⟨rfl, h0⟩ | ⟨g, cap, cur, rfl, _, hg, _⟩
  · exact ⟨none, 0, by rw [h0], .inl (List.length_eq_zero_iff.1 h0)⟩
  · exact ⟨_, cap, rfl, .inr ⟨g, rfl, (Array.getElem?_eq_some_iff.1 hg).1⟩⟩
/-- a record, what was told so far, and the pairs whose fields were there all the while -/
structure Mr (h : ByteArray → Nat) (N : Nat) (W w : World) (r : Roles) (x : Nat) (s : Sx) (T : Value) (tl : List ByteArray) (A : Value) (al : List Ent) : Prop where
  rb : Rb h N W w r x s A al
  told : Ks W.heap.size w T tl
  rT : ∀ k, T.ownBlock = some k → rr r (W.heap.size + 1) k = (0, 0)
  ne : ∀ k, T.ownBlock = some k → A.ownBlock ≠ some k
section
variable {h : ByteArray → Nat} {N N' : Nat} {W w w' : World} {r r' : Roles} {x : Nat} {s s' : Sx} {T A : Value} {tl : List ByteArray} {al : List Ent}
theorem Mr.op (m : Mr h N W w r x s T tl A al) (h1 : Rec h N' w' r' (W.heap.size + 1) W.heap.size x s') (hf : Fr w (rr r (W.heap.size + 1)) w' (rr r' (W.heap.size + 1))) : Mr h N' W w' r' x s' T tl A al :=
  ⟨m.rb.op h1 hf, own_kept m.told (fun k hk => (hf.2.2 k (own_lt m.told hk) (m.rT k hk)).1), fun k hk => (hf.2.2 k (own_lt m.told hk) (m.rT k hk)).2, m.ne⟩
theorem Mr.below (m : Mr h N W w r x s T tl A al) (hb : Below w.heap.size w w') : Mr h N W w' r x s T tl A al :=
  ⟨m.rb.below hb, own_kept m.told (fun k hk => hb.block k (own_lt m.told hk)), m.rT, m.ne⟩
theorem Mr.more (m : Mr h N W w r x s T tl A al) (hN : N ≤ N') : Mr h N' W w r x s T tl A al := ⟨m.rb.more hN, m.told, m.rT, m.ne⟩
theorem own_down2 {w : World} {B B' e s : Nat} {v : Value} {n : Nat} {xs : List Value} (h : w.ownsRow B e s v n xs) (hB : B' ≤ B) : w.ownsRow B' e s v n xs := by
  refine ⟨h.1, ?_⟩
  rcases h.2 with h' | ⟨g, cap, cur, h1, h0, h2⟩
  · exact .inl h'
  · exact .inr ⟨g, cap, cur, h1, Nat.le_trans hB h0, h2⟩
theorem Mr.stay {A' : Value} {al' : List Ent} (m : Mr h N W w r x s T tl A al) (hb : Below w.heap.size w w') (hA : Rw w.heap.size w' A' al') : Mr h N W w' r x s T tl A' al' := by
  have hlt : ∀ k, A'.ownBlock = some k → w.heap.size ≤ k := fun k hk => (World.ownsRow.lt hA k hk).1
  have hbase := m.rb.1.2.2.2.size
  exact ⟨m.rb.row hb.size ⟨hb.os, hb.tape, hb.output⟩ (fun k hk _ => hb.block k hk) (own_down2 hA hbase) (fun g hg => .inr (hlt g hg)), own_kept m.told (fun k hk => hb.block k (own_lt m.told hk)), m.rT, fun k hk e => by have := hlt k e; have := own_lt m.told hk; omega⟩
theorem Mr.add {v2 : Value} {l2 : List ByteArray} (m : Mr h N W w r x s T tl A al) (hb : Below w.heap.size w w') (h2 : Ks w.heap.size w' v2 l2) (hl : tl.length + l2.length ≤ 8000000000000) :
    ∃ T' w3, (Builtin.append_ #[43, 43] 43 #[T, v2]).run Try.prog w' = .ok T' w3 ∧ Mr h N W w3 r x s T' (tl ++ l2) A al := by
  have m2 := m.below hb
  obtain ⟨T', w3, r1, r2, r3, r4, r5⟩ := app_at W.heap.size w' T v2 tl l2 w.heap.size m2.told h2 m2.rb.1.2.2.2.size hl
  have hrec : Rec h N w3 r (W.heap.size + 1) W.heap.size x s := m2.rb.1.1.kept r4.size (fun k hk hr => r4.block k hk (fun e => hr (m2.rT k e.symm)))
  have hA : Rw W.heap.size w3 A al := m2.rb.2.1.kept (fun k hk => r4.block k (m2.rb.2.1.lt hk) (fun e => m2.ne k e.symm hk))
  refine ⟨T', w3, r1, ⟨⟨⟨hrec, m2.rb.1.2.1, m2.rb.1.2.2.1, m2.rb.1.2.2.2.trans r3⟩, hA, m2.rb.2.2⟩, r2, ?_, ?_⟩⟩
  · intro k hk
    rcases r5 with e | e
    · exact m2.rT k (e ▸ hk)
    · rw [e] at hk
      cases hk
      exact m2.rb.1.fresh (Nat.le_refl _)
  · intro k hk e2
    rcases r5 with e | e
    · exact m2.ne k (e ▸ hk) e2
    · rw [e] at hk
      cases hk
      have := m2.rb.2.1.lt e2
      omega
theorem mr_new {w1 w2 : World} (c : Rn h N W w r (W.heap.size + 1) W.heap.size x s) (hb1 : Below w.heap.size w w1) (hA : Rw w.heap.size w1 A al) (hb2 : Below w1.heap.size w1 w2) (hT : Ks w1.heap.size w2 T tl) : Mr h N W w2 r x s T tl A al := by
  have c1 := c.below hb1
  have c2 := c1.below hb2
  have hlA : ∀ k, A.ownBlock = some k → w.heap.size ≤ k ∧ k < w1.heap.size := fun k hk => World.ownsRow.lt hA k hk
  have hlT : ∀ k, T.ownBlock = some k → w1.heap.size ≤ k := fun k hk => (World.ownsRow.lt hT k hk).1
  exact ⟨⟨c2, own_down2 (own_kept hA (fun k hk => hb2.block k (hlA k hk).2)) c.2.2.2.size, fun k hk => c.fresh (hlA k hk).1⟩, own_down2 hT c1.2.2.2.size, fun k hk => c1.fresh (hlT k hk), fun k hk e => by have := hlT k hk; have := (hlA k e).2; omega⟩
end
/-- each of the pairs whose field lies ahead of the cursor is told -/
def Dn (h : ByteArray → Nat) (c : Nat) (al : List Ent) (tl : List ByteArray) : Prop := ∀ e ∈ al, (c = 0 ∨ Rv.plc (h e.1) < Rv.plc c) → e.1 ∈ tl
theorem Dn.next {h : ByteArray → Nat} {c c' : Nat} {al : List Ent} {tl l : List ByteArray} {s : Sx} (hd : Dn h c al tl) (hin : ∀ e ∈ al, Has s e.1) (hcov : ∀ k, Has s k → Rv.plc c ≤ Rv.plc (h k) → (c' = 0 ∨ Rv.plc (h k) < Rv.plc c') → k ∈ l) : Dn h c' al (tl ++ l) := by
  intro k hk hdn
  rcases Nat.lt_or_ge (Rv.plc (h k.1)) (Rv.plc c) with q | q
  · exact List.mem_append_left _ (hd k hk (.inr q))
  · exact List.mem_append_right _ (hcov k.1 (hin k hk) q hdn)
theorem has_set {s s' : Sx} {f v k : ByteArray} (h : Setd s s' f v) (hk : Has s k) : Has s' k := by
  unfold Has at hk ⊢
  rw [h.1 k]
  by_cases e : k = f
  · rw [if_pos e]; rfl
  · rw [if_neg e]; exact hk
theorem has_del {s s' : Sx} {f k : ByteArray} (h : Deld s s' f) (hk : Has s k) (hne : k ≠ f) : Has s' k := by
  unfold Has at hk ⊢
  rw [h.1 k, if_neg hne]
  exact hk
end Go.Proofs.Ytkcmhfcfmbhboaa
