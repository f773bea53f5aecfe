/-
  Contracts over this program: the document's own line.
-/
import Derived.Test.YtoalnfkjpdgbiaaDoorRpForm
import Derived.Test.YtoalnfkjpdgbiaaDoorRpCut
import Derived.Test.YtoalnfkjpdgbiaaDoorRpSame
import Derived.Laws.IdiomStrings
namespace Go.Proofs.YtoalnfkjpdgbiaaDoor
open Go.RowKit
set_option linter.unusedVariables false
namespace Rp
theorem lineF_cons (c : UInt8) (r : List UInt8) : lineF (c :: r) = if c = 10 then .error 160 else if c = 13 then (match r with | [] => .error 5 | d :: r' => if d = 10 then .ok ([], r') else .error 160) else (match lineF r with | .error e => .error e | .ok (a, b) => .ok (c :: a, b)) := by
  conv => lhs; unfold lineF
  rfl
theorem lineF_past : ∀ (p q : List UInt8), clean p = true → lineF (p ++ q) = match lineF q with | .error e => .error e | .ok (a, b) => .ok (p ++ a, b)
  | [], q, _ => by
    show lineF q = _
    cases lineF q with
    | error e => rfl
    | ok x => rfl
  | c :: p, q, h => by
    have h' : (c != 13 && c != 10) = true ∧ clean p = true := by
      unfold clean at h ⊢
      rw [List.all_cons, Bool.and_eq_true] at h
      exact h
    have ih := lineF_past p q h'.2
    have h13 : ¬ c = 13 := fun e => by rw [e] at h'; simp at h'
    have h10 : ¬ c = 10 := fun e => by rw [e] at h'; simp at h'
    show lineF (c :: (p ++ q)) = _
    rw [lineF_cons, if_neg h10, if_neg h13, ih]
    generalize lineF q = z
    cases z with
    | error e => rfl
    | ok x => rfl
theorem lineF_code : ∀ (l : List UInt8) (e : Int), lineF l = .error e → e = 5 ∨ e = 160
  | [], e, h => by cases h; exact .inl rfl
  | c :: r, e, h => by
    unfold lineF at h
    split at h
    · cases h; exact .inr rfl
    · split at h
      · split at h
        · cases h; exact .inl rfl
        · split at h
          · cases h
          · cases h; exact .inr rfl
      · split at h
        · rename_i hl
          cases h
          exact lineF_code r e hl
        · cases h
end Rp
theorem slice_cut {P : Program} (w : World) (t e : TypeId) (ht : P.underlying t = some (.slice e)) (i : TypeInfo) (hi : P.info? e = some i) (h1 : i.size = 1) (g o n c k m : Nat) (hk : k ≤ m) (hm : m ≤ n) (hn : n ≤ c) :
    (Instr.slice t (.slice (some ⟨g, o, none⟩) n c) (some (.int .i64 (k : Int))) (some (.int .i64 (m : Int))) none).run P w = .ok (.slice (some (if c = k then ⟨g, o, none⟩ else ⟨g, o + k, none⟩)) (m - k) (c - k)) w := by
  have hz : (Go.sizeOf e).run P w = .ok 1 w := by simp [Go.sizeOf, typeInfo, hi, h1]
  have hb : ∀ (x y : Nat) code, x ≤ y → (Instr.sliceBound (.int .i64 (x : Int)) y code).run P w = .ok x w := fun x y code hxy => by
    have := run_sliceBound (P := P) (w := w) .i64 (x : Int) y code (by omega) (by omega)
    simpa using this
  simp (disch := omega) only [Instr.slice, Instr.sliceBounds, run_underlying ht, Sem.run_bind, Sem.run_pure, Result.andThen_ok, hb, hz]
  by_cases e : c = k
  · simp [e]
  · rw [if_neg e, if_neg e]
    simp only [Option.map_some, add_at, Nat.mul_one]
/-- some bytes of a row as a text -/
theorem cut_text {w : World} {g o c : Nat} {b : List UInt8} (hc : b.length ≤ c) (hl : ∀ j x, b[j]? = some x → w.cell? ⟨g, o + j, none⟩ = some (.int .u8 (x.toNat : Int))) (k m : Nat) (hk : k ≤ m) (hm : m ≤ b.length) :
    ∃ a d, (∀ wx, (Instr.slice 29 (.slice (some ⟨g, o, none⟩) b.length c) (some (.int .i64 (k : Int))) (some (.int .i64 (m : Int))) none).run Tryd.prog wx = .ok (.slice (some a) (m - k) d) wx) ∧
      (convert 29 9 (.slice (some a) (m - k) d)).run Tryd.prog w = .ok (.string (Rp.ofL ((b.drop k).take (m - k)))) w := by
  obtain ⟨i0, hi0, hz0, hz1, hz2⟩ := parts_of info_u8'
  refine ⟨_, _, fun wx => slice_cut wx 29 5 Tryd.underlying29 i0 hi0 hz1 g o b.length c k m hk hm hc, ?_⟩
  by_cases e : c = k
  · rw [if_pos e]
    have h0 : m - k = 0 := by omega
    have := bytes_text (w := w) (g := g) (o := o) (k := m - k) (c := c - k) (l := b.drop k) (by rw [h0]; exact Nat.zero_le _) (fun j x hx => by
      rw [List.getElem?_drop] at hx
      have := (List.getElem?_eq_some_iff.1 hx).1
      omega)
    exact this
  · rw [if_neg e]
    exact bytes_text (w := w) (g := g) (o := o + k) (k := m - k) (c := c - k) (l := b.drop k) (by rw [List.length_drop]; omega) (fun j x hx => by
      rw [List.getElem?_drop] at hx
      rw [Nat.add_assoc]
      exact hl _ _ hx)
/-- what line answers -/
def LnE (n : Nat) (x : Except Int (List UInt8 × List UInt8)) : Ending := match x with
  | .error c => .returned (.tuple #[.string ⟨#[]⟩, .int .i64 0, .int .i64 c])
  | .ok (s, r) => .returned (.tuple #[.string (Rp.ofL s), .int .i64 ((n - r.length : Nat) : Int), .int .i64 0])
theorem beq_u8 (c d : UInt8) : ((c.toNat : Int) == (d.toNat : Int)) = decide (c = d) := by
  by_cases h : c = d
  · rw [h]; simp
  · have h1 : ¬ c.toNat = d.toNat := fun e => h (UInt8.toNat_inj.1 e)
    have h2 : ¬ (c.toNat : Int) = (d.toNat : Int) := by omega
    rw [beq_eq_false_iff_ne.2 h2, decide_eq_false h]
set_option maxRecDepth 100000 in
set_option maxHeartbeats 4000000 in
theorem rline_any (v : Value) (b : List UInt8) (at' : Nat) (w : World) (h : Bs (· < w.heap.size) w v b) (hb : b.length ≤ 1048576) (hat : at' ≤ b.length) :
    Calls Tryd.prog 56 #[v, .int .i64 (at' : Int)] w fun e w' => e = LnE b.length (Rp.lineF (b.drop at')) ∧ w' = w := by
  obtain ⟨PP, hPP⟩ : ∃ PP : Ending → World → Prop, PP = fun e w' => e = LnE b.length (Rp.lineF (b.drop at')) ∧ w' = w := ⟨_, rfl⟩
  rw [← hPP]
  have HP := keep hPP
  clear hPP
  obtain ⟨ao, c, rfl, hc, hbs⟩ := h
  obtain ⟨N, hN⟩ : ∃ N, b.length = N := ⟨_, rfl⟩
  have HC := keep hc
  have HBS := keep hbs
  have HB := keep hb
  have HAT := keep hat
  rw [hN] at HB HAT HP ⊢
  have HN := keep hN
  clear hc hbs hb hat hN
  go_enter Tryd.func56, Tryd.ntmps56
  go_wp2_with fail
  go_loopw [7] (fun v7 wr => ∃ i : Nat, at' ≤ i ∧ i ≤ N ∧ v7 = .int .i64 (i : Nat) ∧ wr = w ∧ Kept (Rp.clean ((b.drop at').take (i - at')) = true)) (fun v7 _ => N - (intOf v7).toNat)
  case atStart => exact ⟨at', Nat.le_refl _, HAT.out, rfl, rfl, keep (by rw [Nat.sub_self, List.take_zero]; rfl)⟩
  case round =>
    obtain ⟨i, hai, hi, rfl, hwr, KC⟩ := hrel
    obtain rfl := hwr.symm
    clear hwr
    have hspl : b.drop at' = (b.drop at').take (i - at') ++ b.drop i := by
      conv => lhs; rw [← List.take_append_drop (i - at') (b.drop at')]
      rw [List.drop_drop, show at' + (i - at') = i by omega]
    by_cases hlt : i < N
    · have hz : (i : Int) < (N : Int) := by omega
      have hz0 : (0 : Int) ≤ (i : Int) := by omega
      have hwi : IntKind.i64.wrap ((i : Int) + 1) = ((i + 1 : Nat) : Int) := by have := HB.out; rw [IntKind.wrap_i64]; omega
      have hwi2 : IntKind.i64.wrap ((i : Int) + 2) = ((i + 2 : Nat) : Int) := by have := HB.out; rw [IntKind.wrap_i64]; omega
      obtain ⟨M, hM⟩ : ∃ M, N = M + 1 := ⟨N - 1, by omega⟩
      have hwM : IntKind.i64.wrap ((N : Int) - 1) = (M : Int) := by have := HB.out; rw [IntKind.wrap_i64]; omega
      obtain ⟨x, hx⟩ : ∃ x, b[i]? = some x := ⟨_, List.getElem?_eq_getElem (by rw [HN.out]; exact hlt)⟩
      obtain ⟨g, o, rfl, hg, hcell⟩ := HBS.out.resolve_left (fun e => by rw [e] at hx; simp at hx)
      have cx : w.cell? ⟨g, o + i, none⟩ = some (.int .u8 (x.toNat : Int)) := hcell i x hx
      have hdr : b.drop i = x :: b.drop (i + 1) := by
        obtain ⟨h1, h2⟩ := List.getElem?_eq_some_iff.1 hx
        rw [List.drop_eq_getElem_cons h1, h2]
      rw [hdr] at hspl
      have hlf : Rp.lineF (b.drop at') = match Rp.lineF (x :: b.drop (i + 1)) with | .error e => .error e | .ok (a, r) => .ok ((b.drop at').take (i - at') ++ a, r) := by
        conv => lhs; rw [hspl]
        exact Rp.lineF_past _ _ KC.out
      have q10 := beq_u8 x 10
      have q13 := beq_u8 x 13
      have HLF := keep hlf
      have HLT := keep hlt
      have HM := keep hM
      have HAI := keep hai
      have HCELL := keep hcell
      have HDR := keep hdr
      have HX := keep hx
      have HSP := keep hspl
      clear hspl hlf hdr hM hcell hx
      by_cases h10 : x = 10
      · rw [decide_eq_true h10] at q10
        have q10' : ((x.toNat : Int) == 10) = true := q10
        have HE : Kept (Rp.lineF (b.drop at') = .error 160) := keep (by rw [HLF.out, Rp.lineF_cons, if_pos h10])
        clear q10 q13 h10
        go_wp2_with fail
        go_ret3
        rw [HP.out, HE.out]
        exact ⟨rfl, rfl⟩
      · rw [decide_eq_false h10] at q10
        have q10' : ((x.toNat : Int) == 10) = false := q10
        have H10 := keep h10
        clear q10 h10
        by_cases h13 : x = 13
        · rw [decide_eq_true h13] at q13
          have q13' : ((x.toNat : Int) == 13) = true := q13
          have H13 := keep h13
          clear q13 h13
          by_cases hiM : i = M
          · have qM : ((i : Int) == (M : Int)) = true := by simp [hiM]
            have HE : Kept (Rp.lineF (b.drop at') = .error 5) := keep (by
              rw [HLF.out, Rp.lineF_cons, if_neg H10.out, if_pos H13.out, List.drop_of_length_le (by rw [HN.out]; have := HM.out; omega)])
            clear hiM
            go_wp2_with fail
            go_ret3
            rw [HP.out, HE.out]
            exact ⟨rfl, rfl⟩
          · have qM : ((i : Int) == (M : Int)) = false := by simp; omega
            obtain ⟨y, hy⟩ : ∃ y, b[i + 1]? = some y := ⟨_, List.getElem?_eq_getElem (by rw [HN.out]; have := HM.out; have := HLT.out; omega)⟩
            have cy : w.cell? ⟨g, o + (i + 1), none⟩ = some (.int .u8 (y.toNat : Int)) := HCELL.out (i + 1) y hy
            have hdr2 : b.drop (i + 1) = y :: b.drop (i + 2) := by
              obtain ⟨h1, h2⟩ := List.getElem?_eq_some_iff.1 hy
              rw [List.drop_eq_getElem_cons h1, h2]
            have hz1 : ((i + 1 : Nat) : Int) < (N : Int) := by have := HM.out; have := HLT.out; omega
            have hz10 : (0 : Int) ≤ ((i + 1 : Nat) : Int) := by omega
            obtain ⟨i1, hi1⟩ : ∃ i1, i + 1 = i1 := ⟨_, rfl⟩
            have qy : ((y.toNat : Int) != 10) = !decide (y = 10) := by rw [bne, show ((y.toNat : Int) == 10) = decide (y = 10) from beq_u8 y 10]
            have HD2 := keep hdr2
            have HI1 := keep hi1
            rw [hi1] at cy hz1 hz10 hwi
            clear hdr2 hy hi1 hiM
            by_cases hy10 : y = 10
            · rw [decide_eq_true hy10] at qy
              obtain ⟨a, d, sl, cv⟩ := cut_text (by rw [HN.out]; exact (HN.out ▸ HC.out)) HCELL.out at' i HAI.out (by rw [HN.out]; exact Nat.le_of_lt HLT.out)
              rw [HN.out] at sl
              have HE : Kept (Rp.lineF (b.drop at') = .ok ((b.drop at').take (i - at'), b.drop (i + 2))) := keep (by
                rw [HLF.out, Rp.lineF_cons, if_neg H10.out, if_pos H13.out, HD2.out]
                simp [hy10])
              have hle : i + 2 ≤ N := by have := HI1.out; omega
              have HLE := keep hle
              clear hy10 hle
              go_wp2_with fail
              go_ret3
              rw [HP.out, HE.out]
              refine ⟨?_, rfl⟩
              show _ = Ending.returned (.tuple #[.string (Rp.ofL _), .int .i64 ((N - (b.drop (i + 2)).length : Nat) : Int), .int .i64 0])
              rw [List.length_drop, HN.out, show N - (N - (i + 2)) = i + 2 by have := HLE.out; omega]
              rfl
            · rw [decide_eq_false hy10] at qy
              have HE : Kept (Rp.lineF (b.drop at') = .error 160) := keep (by
                rw [HLF.out, Rp.lineF_cons, if_neg H10.out, if_pos H13.out, HD2.out]
                simp [hy10])
              clear hy10
              go_wp2_with fail
              go_ret3
              rw [HP.out, HE.out]
              exact ⟨rfl, rfl⟩
        · rw [decide_eq_false h13] at q13
          have q13' : ((x.toNat : Int) == 13) = false := q13
          have HCN : Kept (Rp.clean ((b.drop at').take (i + 1 - at')) = true) := keep (by
            have e : (b.drop at').take (i + 1 - at') = (b.drop at').take (i - at') ++ [x] := by
              rw [show i + 1 - at' = (i - at') + 1 by have := HAI.out; omega, List.take_add_one, List.getElem?_drop, show at' + (i - at') = i by have := HAI.out; omega, HX.out]
              rfl
            rw [e]
            have hk := KC.out
            unfold Rp.clean at hk ⊢
            rw [List.all_append, hk]
            simp [H10.out, h13])
          clear q13 h13
          go_wp2_with fail
          go_roundw
          case measure => have := HLT.out; simp [intOf]; omega
          case rel => exact ⟨i + 1, Nat.le_succ_of_le HAI.out, HLT.out, by rfl, by first | trivial | rfl, HCN⟩
    · obtain rfl : i = N := by omega
      have hz : ¬ (i : Int) < (i : Int) := by omega
      have HE : Kept (Rp.lineF (b.drop at') = .error 5) := keep (by
        rw [hspl, List.drop_of_length_le (Nat.le_of_eq HN.out), Rp.lineF_past _ _ KC.out]
        rfl)
      clear hspl
      go_wp2_with fail
      go_ret3
      rw [HP.out, HE.out]
      exact ⟨rfl, rfl⟩
end Go.Proofs.YtoalnfkjpdgbiaaDoor
