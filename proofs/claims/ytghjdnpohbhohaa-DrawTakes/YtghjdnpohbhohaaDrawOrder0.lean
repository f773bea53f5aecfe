/-
  The walk of DrawOrder: the numbers come in their order, each once, behind the end noughts.
-/
import Derived.Test.YtghjdnpohbhohaaDrawWakes
namespace Go.Proofs.Ytghjdnpohbhohaa
open Go.RowKit
/-- a row of numbers that came in, by its address -/
def Row (w : World) (ao : Option Addr) (Z : List Nat) : Prop :=
  ∀ j (h : j < Z.length), ∃ a, ao = some a ∧ a.block < w.heap.size ∧ w.cell? (a.add j) = some (.int .u64 (Z[j] : Nat))
theorem Row.bel {w w' : World} {ao : Option Addr} {Z : List Nat} (h : Row w ao Z) (hb : Below w.heap.size w w') : Row w' ao Z := by
  intro j hj
  obtain ⟨a, e, h1, h2⟩ := h j hj
  have hs := hb.size
  exact ⟨a, e, by omega, by rw [hb.cell (p := a.add j) (by unfold Addr.add; split <;> exact h1)]; exact h2⟩
theorem drop_head (Z : List Nat) (k : Nat) : (Z.drop k).headD 0 = Z.getD k 0 := by
  rw [List.headD_eq_head?_getD, List.head?_drop, List.getD_eq_getElem?_getD]
theorem drop_tail (Z : List Nat) (k : Nat) : (Z.drop k).tail = Z.drop (k + 1) := by rw [List.tail_drop]
theorem mod_facts (t d : Nat) (hd : 0 < d) : ∃ x : Nat, t % d = x ∧ ¬ (d : Int) ≤ x ∧ (x : Int) ≤ t ∧ ((t : Int) - x) % d = 0 := by
  refine ⟨t % d, rfl, ?_, ?_, ?_⟩
  · have := Nat.mod_lt t hd; omega
  · have := Nat.mod_le t d; omega
  · have e : ((t : Int) - (t % d : Nat)) = (d : Int) * (t / d : Nat) := by
      have := Nat.div_add_mod t d
      have h2 : ((d * (t / d) + t % d : Nat) : Int) = t := by rw [this]
      rw [Int.natCast_add, Int.natCast_mul] at h2
      omega
    rw [e]
    exact Int.mul_emod_right _ _
theorem getD_le {Z : List Nat} (h : ∀ x ∈ Z, (x : Int) ≤ 18446744073709551615) (k : Nat) : (Z.getD k 0 : Int) ≤ 18446744073709551615 := by
  rcases Nat.lt_or_ge k Z.length with hk | hk
  · rw [List.getD, List.getElem?_eq_getElem hk]; exact h _ (List.getElem_mem hk)
  · rw [List.getD, List.getElem?_eq_none hk]; decide
set_option maxHeartbeats 4000000 in
set_option maxRecDepth 100000 in
theorem order_walk (W : World) (ao bo : Option Addr) (ca cb : Nat) (Z B : List Nat) (hZ : Row W ao Z) (hB : Row W bo B) (hI : Ints W (.slice ao Z.length ca) Z)
    (hz : ∀ x ∈ Z, (x : Int) ≤ 18446744073709551615) (hs : Z.length * 8 ≤ 140737488355328) (ht : B.length * 8 ≤ 140737488355328) :
    Calls Try.prog 6 #[.slice ao Z.length ca, .slice bo B.length cb] W fun e w' => e = .returned (.bool true) ∧ Below W.heap.size W w' := by
  go_enter Try.func6, Try.ntmps6
  go_wp2_with fail
  refine (wakes_any _).mono ?_
  rintro e w1 ⟨rfl, hb1⟩
  go_wp2_with fail
  have hI1 : Ints w1 (.slice ao Z.length ca) Z := by
    rcases hI with h | ⟨a, cap, e, h1, h2, h3⟩
    · exact .inl h
    · cases e
      refine .inr ⟨a, ca, rfl, h1, h2, fun j hj => ?_⟩
      obtain ⟨a', e', _, hc⟩ := hZ.bel hb1 j hj
      cases e'
      exact hc
  refine (new_any _ _ Z hI1 hs).mono ?_
  rintro e w2 ⟨b, g, rfl, hsrc, hb, _, hg, _, hb2⟩
  have hbel := keep (hb1.trans (hb2.mono hb1.size))
  have hbb : W.heap.size ≤ b := Nat.le_trans hb1.size hb
  have HZ := keep hZ
  have HB := keep hB
  have Hz := keep hz
  have Hs := keep hsrc
  clear hI hI1 hZ hB hz hsrc hb1 hb2 hb hg
  go_wp2
  go_loopw [6] (fun i wx => ∃ k : Nat, k ≤ Z.length + 3 ∧ i = .int .i64 k ∧ Kept (Src wx b g (Z.drop k)) ∧ Kept (Below W.heap.size W wx)) (fun i _ => Z.length + 3 - (intOf i).toNat)
  case atStart => exact ⟨0, by omega, rfl, Hs, hbel⟩
  case round =>
    clear Hs hbel
    obtain ⟨k, hk, rfl, Hs, hbel⟩ := hrel
    by_cases c1 : k < Z.length + 3
    · have hsrc := Hs.out
      have mN := next_any wr b g _ hsrc
      have mB := fun n => below_any wr b g n _ hsrc (by rw [drop_head]; exact getD_le Hz.out k)
      rw [drop_head, drop_tail] at mN
      simp only [drop_head, drop_tail] at mB
      have hcase : (k < Z.length ∧ ∃ a, ao = some a ∧ wr.cell? (a.add k) = some (.int .u64 (Z.getD k 0 : Nat)) ∧ ((Z.drop (k + 1)).length : Int) = (Z.length : Int) - k - 1) ∨ (¬ k < Z.length ∧ Z.getD k 0 = 0 ∧ ((Z.drop (k + 1)).length : Int) = 0) := by
        rcases Nat.lt_or_ge k Z.length with hk | hk
        · obtain ⟨a, e, _, hc⟩ := HZ.out.bel hbel.out k hk
          exact .inl ⟨hk, a, e, by rw [List.getD, List.getElem?_eq_getElem hk]; exact hc, by rw [List.length_drop]; omega⟩
        · exact .inr ⟨by omega, by rw [List.getD, List.getElem?_eq_none hk]; rfl, by rw [List.length_drop]; omega⟩
      have hcaseB : (k < B.length ∧ ∃ a d, bo = some a ∧ wr.cell? (a.add k) = some (.int .u64 (d : Nat)) ∧ (∀ w', Only b wr w' → w'.cell? (a.add k) = some (.int .u64 (d : Nat)))) ∨ ¬ k < B.length := by
        rcases Nat.lt_or_ge k B.length with hk | hk
        · obtain ⟨a, e, h1, hc⟩ := HB.out.bel hbel.out k hk
          obtain ⟨a', e', h1', _⟩ := HB.out k hk
          rw [e] at e'
          cases e'
          refine .inl ⟨hk, a, B[k], e, hc, fun w' ho => ?_⟩
          rw [World.cell?_of_block (w := wr) (a := a.add k) (ho.2.2 _ (by rw [show (a.add k).block = a.block by unfold Addr.add; split <;> rfl]; omega))]
          exact hc
        · exact .inr (by omega)
      have mL : ∀ w', Src w' b g (Z.drop (k + 1)) → Calls Try.prog 14 #[.pointer (some ⟨b, 0, none⟩)] w' fun e w'' => e = .returned (.int .i64 (Z.drop (k + 1)).length) ∧ w'' = w' := fun w' h => left_any w' b g _ h
      have hstep : ∀ w', Only b wr w' → Below W.heap.size W w' := fun w' ho => hbel.out.trans (ho.1 _ hbb)
      have Hstep := keep hstep
      have htb := getD_le Hz.out k
      generalize Z.getD k 0 = t at *
      generalize ((Z.drop (k + 1)).length : Int) = lf at *
      clear hsrc Hs HZ HB Hz hstep hbel
      rcases hcase with ⟨c2, a, rfl, hcA, rfl⟩ | ⟨c2, rfl, rfl⟩ <;> rcases hcaseB with ⟨c3, a', d, rfl, hcB, hcB'⟩ | c3
      · rcases Nat.eq_zero_or_pos d with rfl | hd
        · have mB0 := mB 0
          rw [if_pos rfl] at mB0
          go_wp2_with fail
          refine mB0.mono ?_
          rintro e w3 ⟨rfl, hsrc3, ho3⟩
          have hc3 := hcB' w3 ho3
          have mL3 := mL w3 hsrc3
          have HS3 := keep hsrc3
          have HO3 := keep ho3
          clear hcB' mL mB mB0 mN hsrc3 ho3
          go_wp2_with fail
          refine mL3.mono ?_
          rintro e w' ⟨rfl, rfl⟩
          go_wp2
          go_roundw
          case rel => exact ⟨k + 1, by omega, by go_num, HS3, keep (Hstep.out _ HO3.out)⟩
          case measure => simp [intOf]; omega
        · obtain ⟨x, hx, h1, h2, h3⟩ := mod_facts t d hd
          have mB0 := mB d
          rw [if_neg (by omega), hx] at mB0
          have hd0 : ((d : Int) == 0) = false := beq_eq_false_iff_ne.2 (by omega)
          have hd1 : (1 : Int) ≤ d := by omega
          have hd2 : (0 : Int) < d := by omega
          clear hx
          go_wp2_with fail
          refine mB0.mono ?_
          rintro e w3 ⟨rfl, hsrc3, ho3⟩
          have hc3 := hcB' w3 ho3
          have mL3 := mL w3 hsrc3
          have HS3 := keep hsrc3
          have HO3 := keep ho3
          clear hcB' mL mB mB0 mN hsrc3 ho3
          go_wp2_with fail
          refine mL3.mono ?_
          rintro e w' ⟨rfl, rfl⟩
          go_wp2
          go_roundw
          case rel => exact ⟨k + 1, by omega, by go_num, HS3, keep (Hstep.out _ HO3.out)⟩
          case measure => simp [intOf]; omega
      · skip
        · clear mB
          go_wp2_with fail
          refine mN.mono ?_
          rintro e w3 ⟨rfl, hsrc3, ho3⟩
          have mL3 := mL w3 hsrc3
          have HS3 := keep hsrc3
          have HO3 := keep ho3
          clear mL mN hsrc3 ho3
          go_wp2_with fail
          refine mL3.mono ?_
          rintro e w' ⟨rfl, rfl⟩
          go_wp2
          go_roundw
          case rel => exact ⟨k + 1, by omega, by go_num, HS3, keep (Hstep.out _ HO3.out)⟩
          case measure => simp [intOf]; omega
      · rcases Nat.eq_zero_or_pos d with rfl | hd
        · have mB0 := mB 0
          rw [if_pos rfl] at mB0
          go_wp2_with fail
          refine mB0.mono ?_
          rintro e w3 ⟨rfl, hsrc3, ho3⟩
          have hc3 := hcB' w3 ho3
          have mL3 := mL w3 hsrc3
          have HS3 := keep hsrc3
          have HO3 := keep ho3
          clear hcB' mL mB mB0 mN hsrc3 ho3
          go_wp2_with fail
          refine mL3.mono ?_
          rintro e w' ⟨rfl, rfl⟩
          go_wp2
          go_roundw
          case rel => exact ⟨k + 1, by omega, by go_num, HS3, keep (Hstep.out _ HO3.out)⟩
          case measure => simp [intOf]; omega
        · have mB0 := mB d
          rw [if_neg (by omega), Nat.zero_mod] at mB0
          have hd0 : ((d : Int) == 0) = false := beq_eq_false_iff_ne.2 (by omega)
          have hd1 : (1 : Int) ≤ d := by omega
          have hd2 : (0 : Int) < d := by omega
          go_wp2_with fail
          refine mB0.mono ?_
          rintro e w3 ⟨rfl, hsrc3, ho3⟩
          have hc3 := hcB' w3 ho3
          have mL3 := mL w3 hsrc3
          have HS3 := keep hsrc3
          have HO3 := keep ho3
          clear hcB' mL mB mB0 mN hsrc3 ho3
          go_wp2_with fail
          refine mL3.mono ?_
          rintro e w' ⟨rfl, rfl⟩
          go_wp2
          go_roundw
          case rel => exact ⟨k + 1, by omega, by go_num, HS3, keep (Hstep.out _ HO3.out)⟩
          case measure => simp [intOf]; omega
      · skip
        · clear mB
          go_wp2_with fail
          refine mN.mono ?_
          rintro e w3 ⟨rfl, hsrc3, ho3⟩
          have mL3 := mL w3 hsrc3
          have HS3 := keep hsrc3
          have HO3 := keep ho3
          clear mL mN hsrc3 ho3
          go_wp2_with fail
          refine mL3.mono ?_
          rintro e w' ⟨rfl, rfl⟩
          go_wp2
          go_roundw
          case rel => exact ⟨k + 1, by omega, by go_num, HS3, keep (Hstep.out _ HO3.out)⟩
          case measure => simp [intOf]; omega
    · go_wp2
      go_ret
      exact ⟨rfl, hbel.out⟩
end Go.Proofs.Ytghjdnpohbhohaa
