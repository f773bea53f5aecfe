/-
  Contracts over this program: what each statement asks first (wakes): a dict of one key, and Next over it.
-/
import Derived.Test.YtnkladifalnmnaaScanNone0
namespace Go.Proofs.Ytnkladifalnmnaa
open Go.RowKit Go.Shelf
attribute [local go_sem] Oper.semAt_some
theorem four_of {α : Type} {l : List α} (h : l.length = 4) : ∃ a b c d, l = [a, b, c, d] := by
  match l, h with
  | [a, b, c, d], _ => exact ⟨a, b, c, d, rfl⟩
theorem one_of {s : Sd} {k : ByteArray} {v : Int} (hK : Kn s 1) (hl : lk s k = some v) : Dc.all s = [(k, v)] := by
  have h1 := hK.2.2.1
  unfold lk at hl
  match hs : Dc.all s with
  | [] => rw [hs] at h1; simp at h1
  | [e] =>
    rw [hs] at hl
    unfold Dc.look at hl
    by_cases q : e.1 = k
    · rw [if_pos q] at hl
      cases hl
      subst q
      rfl
    · rw [if_neg q] at hl
      simp [Dc.look] at hl
  | e :: f :: l => rw [hs] at h1; simp at h1
/-- what a dict of four buckets and one key tells -/
theorem one_told {s : Sd} {k : ByteArray} {v : Int} (hK : Kn s 1) (h4 : s.old.length = 4) (ha : Dc.all s = [(k, v)]) :
    tk s 0 0 ++ tk s 0 2 ++ tk s 0 1 ++ tk s 0 3 = [k] ∧ Few s ∧ Lay s 2 0 ∧ smN s = 0 := by
  obtain ⟨hy, hp, h1, _⟩ := hK
  obtain ⟨a, b, c, d, ho⟩ := four_of h4
  have hz : smN s = 0 := by unfold smN; rw [hy]; simp
  have hf : a ++ b ++ c ++ d = [(k, v)] := by
    rw [← ha]
    unfold Dc.all
    rw [hp, hy, ho]
    simp
  have hlen : a.length + b.length + c.length + d.length = 1 := by have := congrArg List.length hf; simpa [Nat.add_assoc] using this
  refine ⟨?_, ⟨by omega, by rw [hy]; simp, fun t i c' hc => ?_⟩, ⟨?_, fun h0 => ?_, by omega⟩, hz⟩
  · have hh : tk s 0 0 = a.map (·.1) ∧ tk s 0 2 = c.map (·.1) ∧ tk s 0 1 = b.map (·.1) ∧ tk s 0 3 = d.map (·.1) := by
      unfold tk tbl
      simp [ho]
    rw [hh.1, hh.2.1, hh.2.2.1, hh.2.2.2]
    match a, b, c, d, hf, hlen with
    | [x], [], [], [], hf, _ => simp at hf; simp [hf]
    | [], [x], [], [], hf, _ => simp at hf; simp [hf]
    | [], [], [x], [], hf, _ => simp at hf; simp [hf]
    | [], [], [], [x], hf, _ => simp at hf; simp [hf]
  · unfold tbl at hc
    split at hc
    · rw [ho] at hc
      have hm := List.mem_of_getElem? hc
      simp at hm
      rcases hm with rfl | rfl | rfl | rfl <;> omega
    · rw [hy] at hc; simp at hc
  · rw [hz]
    exact h4
  · rw [hy] at h0; simp at h0
theorem nx2 : Rv.next 2 0 = 2 ∧ Rv.next 2 2 = 1 ∧ Rv.next 2 1 = 3 ∧ Rv.next 2 3 = 0 := by decide
set_option maxRecDepth 100000 in
theorem next_one (w : World) (r : Roles) (b seed n : Nat) (s : Sd) (k : ByteArray) (v : Int) (hD : Dct w r b seed n s) (hK : Kn s 1) (h4 : s.old.length = 4) (ha : Dc.all s = [(k, v)]) :
    Calls Try.prog 12 #[.pointer (some ⟨b, 0, none⟩), .int .u64 0, .int .i64 100] w fun x w' => (∃ v' : Value, x = .returned (.tuple #[.int .u64 0, v']) ∧ Ks w.heap.size w' v' [k]) ∧ Below w.heap.size w w' := by
  obtain ⟨ht, hF, hL, hz⟩ := one_told hK h4 ha
  have hy := hK.1
  have hp : ∀ c, passF s 2 0 c = tk s 0 c := by intro c; unfold passF; rw [hz, hy]; simp
  have mS := sizes_any w r b seed n s hD
  rw [h4] at mS
  have hlen : (tk s 0 0).length + (tk s 0 2).length + (tk s 0 1).length + (tk s 0 3).length = 1 := by have := congrArg List.length ht; simpa [Nat.add_assoc] using this
  obtain ⟨n0, n2, n1, n3⟩ := nx2
  have M := next_walk w b 0 100 4 _ _ 100 (tk s 0) (Rv.next 2) (fun x => if x = 0 then 0 else if x = 2 then 1 else if x = 1 then 2 else 3)
    (fun x l f => (x = 0 ∧ l = [] ∧ f = 4) ∨ (x = 2 ∧ l = tk s 0 0 ∧ f = 3) ∨ (x = 1 ∧ l = tk s 0 0 ++ tk s 0 2 ∧ f = 2) ∨ (x = 3 ∧ l = tk s 0 0 ++ tk s 0 2 ++ tk s 0 1 ∧ f = 1))
    (fun c l => c = 0 ∧ l = [k]) 4 (by decide) (by decide) (by decide) mS ?_ ?_ ?_ ?_ ?_ (.inl ⟨rfl, rfl, rfl⟩) (fun x => Nat.lt_trans (Rv.next_lt 2 x) (by decide))
  · refine M.mono ?_
    rintro _ w' ⟨⟨c', l', v', rfl, q1, ⟨rfl, rfl⟩, _⟩, q2⟩
    exact ⟨⟨v', rfl, q1⟩, q2⟩
  · intro x xs v w' hx hb hv hl
    have := spass_any w w' r b seed n s hD hF 2 0 hL x hx v xs hb hv (by rw [hp]; exact hl)
    rw [hp] at this
    exact this
  · rintro x f l hg hs
    rcases hg with ⟨rfl, rfl, _⟩ | ⟨rfl, rfl, _⟩ | ⟨rfl, rfl, _⟩ | ⟨rfl, rfl, _⟩
    · exfalso; rw [n0] at hs; simp at hs; omega
    · exfalso; rw [n2] at hs; simp at hs; omega
    · exfalso; rw [n1] at hs; simp at hs; omega
    · exact ⟨n3, ht⟩
  · rintro x f l hg h0 _
    rcases hg with ⟨rfl, rfl, hf⟩ | ⟨rfl, rfl, hf⟩ | ⟨rfl, rfl, hf⟩ | ⟨rfl, rfl, hf⟩
    · rw [n0]; exact ⟨.inr (.inl ⟨rfl, by simp, by omega⟩), by decide, by decide⟩
    · rw [n2]; exact ⟨.inr (.inr (.inl ⟨rfl, rfl, by omega⟩)), by decide, by decide⟩
    · rw [n1]; exact ⟨.inr (.inr (.inr ⟨rfl, rfl, by omega⟩)), by decide, by decide⟩
    · exact absurd n3 h0
  · rintro x f l hg
    rcases hg with ⟨_, _, rfl⟩ | ⟨_, _, rfl⟩ | ⟨_, _, rfl⟩ | ⟨_, _, rfl⟩ <;> exact ⟨_, rfl⟩
  · rintro x f l hg
    rcases hg with ⟨rfl, rfl, hf⟩ | ⟨rfl, rfl, hf⟩ | ⟨rfl, rfl, hf⟩ | ⟨rfl, rfl, hf⟩ <;> first | omega | (simp only [List.length_nil, List.length_append]; omega)
def kk : ByteArray := { data := #[107] }
theorem kk_size : kk.size ≤ maxLen := by decide
set_option maxRecDepth 100000 in
set_option maxHeartbeats 1000000 in
theorem wakes_any (w : World) : Calls Try.prog 7 #[] w fun e w' => e = .returned (.bool true) ∧ Below w.heap.size w w' := by
  have hH := hs_is 7 (by rw [Dw.M_is]; omega)
  generalize hs 7 = h at hH
  have mN := new_any h w 7 0
  go_enter Try.func7, Try.ntmps7
  go_wp2_with fail
  refine mN.mono ?_
  rintro _ w1 ⟨rfl, hb1, hs1, hd1⟩
  have mS := set_any hH w1 _ _ _ kk 1 hd1 (by omega) kk_size
  have hI := hd1.2.1
  have hkn := kn_set (key := kk) (v := 1) hI kn_none (by omega) rfl
  have hlk : lk (Dc.set h Dc.none0 kk (1 : Int)).1 kk = some 1 := by rw [(setd_of hI kk 1).1, if_pos rfl]
  generalize hs2 : (Dc.set h Dc.none0 kk (1 : Int)).1 = s2 at mS hkn hlk
  have HB := keep hb1
  have HKN := keep hkn
  have HLK := keep hlk
  clear mN hb1 hs1 hd1 hs2 hkn hlk hI
  go_wp2_with fail
  refine mS.mono ?_
  rintro _ w2 ⟨rfl, r2, hd2, hf2⟩
  have mX := next_one w2 r2 _ _ _ s2 kk 1 hd2.1 HKN.out.1 HKN.out.2 (one_of HKN.out.1 HLK.out)
  have HF := keep (HB.out.trans (hf2.below HB.out.size (fun k hk => by show (if k = w.heap.size then _ else _) = _; rw [if_neg (by omega)])))
  clear mS hd2 hf2 HKN HLK HB
  go_wp2_with fail
  refine mX.mono ?_
  rintro _ w3 ⟨⟨v, rfl, hv⟩, hb3⟩
  obtain ⟨g, cap, rfl, _, hg⟩ := hv.form (by decide)
  have c0 : w3.cell? ⟨g, 0, none⟩ = some (.string kk) := hv.at rfl
  have hkk : kk.toList = [107] := by rw [ByteArray.toList_eq]; rfl
  have mA := after_0_8 w3
  have HB3 := keep (HF.out.trans (hb3.mono HF.out.size))
  clear mX hv hb3 HF hg
  rw [show [kk].length = 1 from rfl]
  go_wp2_with fail
  refine mA.mono ?_
  rintro _ w4 ⟨rfl, hw4⟩
  subst hw4
  go_wp2
  go_ret
  exact ⟨rfl, HB3.out⟩
end Go.Proofs.Ytnkladifalnmnaa
