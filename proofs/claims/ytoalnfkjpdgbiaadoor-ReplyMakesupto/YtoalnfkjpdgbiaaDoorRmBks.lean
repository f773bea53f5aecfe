/-
  Contracts over this program: the document's own Bulks.
-/
import Derived.Test.YtoalnfkjpdgbiaaDoorRpForm
import Derived.Test.YtoalnfkjpdgbiaaDoorRpCut
import Derived.Test.YtoalnfkjpdgbiaaDoorRpSame
import Derived.Laws.IdiomStrings
import Derived.Test.YtoalnfkjpdgbiaaDoorRmMade
import Derived.Test.YtoalnfkjpdgbiaaDoorRpPlain0
import Derived.OpenShut
import Derived.Test.YtoalnfkjpdgbiaaDoorRpPlain2
import Derived.Deep.RegionHeld3
/-
  Contracts over this program: the document's own line.
-/
namespace Go.Proofs.YtoalnfkjpdgbiaaDoor
open Go.RowKit
set_option linter.unusedVariables false
namespace Rp
theorem lineF_cons (c : UInt8) (r : List UInt8) : lineF (c :: r) = if c = 10 then .error 160 else if c = 13 then (match r with | [] => .error 5 | d :: r' => if d = 10 then .ok ([], r') else .error 160) else (match lineF r with | .error e => .error e | .ok (a, b) => .ok (c :: a, b)) := by
  conv => lhs; unfold lineF
  rfl
theorem lineF_past : ∀ (p q : List UInt8), clean p = true → lineF (p ++ q) = match lineF q with | .error e => .error e | .ok (a, b) => .ok (p ++ a, b)
  | [], q, _ => by
    show lineF q = _
    cases lineF q with
    | error e => rfl
    | ok x => rfl
  | c :: p, q, h => by
    have h' : (c != 13 && c != 10) = true ∧ clean p = true := by
      unfold clean at h ⊢
      rw [List.all_cons, Bool.and_eq_true] at h
      exact h
    have ih := lineF_past p q h'.2
    have h13 : ¬ c = 13 := fun e => by rw [e] at h'; simp at h'
    have h10 : ¬ c = 10 := fun e => by rw [e] at h'; simp at h'
    show lineF (c :: (p ++ q)) = _
    rw [lineF_cons, if_neg h10, if_neg h13, ih]
    generalize lineF q = z
    cases z with
    | error e => rfl
    | ok x => rfl
theorem lineF_code : ∀ (l : List UInt8) (e : Int), lineF l = .error e → e = 5 ∨ e = 160
  | [], e, h => by cases h; exact .inl rfl
  | c :: r, e, h => by
    unfold lineF at h
    split at h
    · cases h; exact .inr rfl
    · split at h
      · split at h
        · cases h; exact .inl rfl
        · split at h
          · cases h
          · cases h; exact .inr rfl
      · split at h
        · rename_i hl
          cases h
          exact lineF_code r e hl
        · cases h
end Rp
theorem slice_cut {P : Program} (w : World) (t e : TypeId) (ht : P.underlying t = some (.slice e)) (i : TypeInfo) (hi : P.info? e = some i) (h1 : i.size = 1) (g o n c k m : Nat) (hk : k ≤ m) (hm : m ≤ n) (hn : n ≤ c) :
    (Instr.slice t (.slice (some ⟨g, o, none⟩) n c) (some (.int .i64 (k : Int))) (some (.int .i64 (m : Int))) none).run P w = .ok (.slice (some (if c = k then ⟨g, o, none⟩ else ⟨g, o + k, none⟩)) (m - k) (c - k)) w := by
  have hz : (Go.sizeOf e).run P w = .ok 1 w := by simp [Go.sizeOf, typeInfo, hi, h1]
  have hb : ∀ (x y : Nat) code, x ≤ y → (Instr.sliceBound (.int .i64 (x : Int)) y code).run P w = .ok x w := fun x y code hxy => by
    have := run_sliceBound (P := P) (w := w) .i64 (x : Int) y code (by omega) (by omega)
    simpa using this
  simp (disch := omega) only [Instr.slice, Instr.sliceBounds, run_underlying ht, Sem.run_bind, Sem.run_pure, Result.andThen_ok, hb, hz]
  by_cases e : c = k
  · simp [e]
  · rw [if_neg e, if_neg e]
    simp only [Option.map_some, add_at, Nat.mul_one]
/-- some bytes of a row as a text -/
theorem cut_text {w : World} {g o c : Nat} {b : List UInt8} (hc : b.length ≤ c) (hl : ∀ j x, b[j]? = some x → w.cell? ⟨g, o + j, none⟩ = some (.int .u8 (x.toNat : Int))) (k m : Nat) (hk : k ≤ m) (hm : m ≤ b.length) :
    ∃ a d, (∀ wx, (Instr.slice 29 (.slice (some ⟨g, o, none⟩) b.length c) (some (.int .i64 (k : Int))) (some (.int .i64 (m : Int))) none).run Tryd.prog wx = .ok (.slice (some a) (m - k) d) wx) ∧
      (convert 29 9 (.slice (some a) (m - k) d)).run Tryd.prog w = .ok (.string (Rp.ofL ((b.drop k).take (m - k)))) w := by
  obtain ⟨i0, hi0, hz0, hz1, hz2⟩ := parts_of info_u8'
  refine ⟨_, _, fun wx => slice_cut wx 29 5 Tryd.underlying29 i0 hi0 hz1 g o b.length c k m hk hm hc, ?_⟩
  by_cases e : c = k
  · rw [if_pos e]
    have h0 : m - k = 0 := by omega
    have := bytes_text (w := w) (g := g) (o := o) (k := m - k) (c := c - k) (l := b.drop k) (by rw [h0]; exact Nat.zero_le _) (fun j x hx => by
      rw [List.getElem?_drop] at hx
      have := (List.getElem?_eq_some_iff.1 hx).1
      omega)
    exact this
  · rw [if_neg e]
    exact bytes_text (w := w) (g := g) (o := o + k) (k := m - k) (c := c - k) (l := b.drop k) (by rw [List.length_drop]; omega) (fun j x hx => by
      rw [List.getElem?_drop] at hx
      rw [Nat.add_assoc]
      exact hl _ _ hx)
/-- what line answers -/
def LnE (n : Nat) (x : Except Int (List UInt8 × List UInt8)) : Ending := match x with
  | .error c => .returned (.tuple #[.string ⟨#[]⟩, .int .i64 0, .int .i64 c])
  | .ok (s, r) => .returned (.tuple #[.string (Rp.ofL s), .int .i64 ((n - r.length : Nat) : Int), .int .i64 0])
theorem beq_u8 (c d : UInt8) : ((c.toNat : Int) == (d.toNat : Int)) = decide (c = d) := by
  by_cases h : c = d
  · rw [h]; simp
  · have h1 : ¬ c.toNat = d.toNat := fun e => h (UInt8.toNat_inj.1 e)
    have h2 : ¬ (c.toNat : Int) = (d.toNat : Int) := by omega
    rw [beq_eq_false_iff_ne.2 h2, decide_eq_false h]
set_option maxRecDepth 100000 in
set_option maxHeartbeats 4000000 in
theorem rline_any (v : Value) (b : List UInt8) (at' : Nat) (w : World) (h : Bs (· < w.heap.size) w v b) (hb : b.length ≤ 1048576) (hat : at' ≤ b.length) :
    Calls Tryd.prog 56 #[v, .int .i64 (at' : Int)] w fun e w' => e = LnE b.length (Rp.lineF (b.drop at')) ∧ w' = w := by
  obtain ⟨PP, hPP⟩ : ∃ PP : Ending → World → Prop, PP = fun e w' => e = LnE b.length (Rp.lineF (b.drop at')) ∧ w' = w := ⟨_, rfl⟩
  rw [← hPP]
  have HP := keep hPP
  clear hPP
  obtain ⟨ao, c, rfl, hc, hbs⟩ := h
  obtain ⟨N, hN⟩ : ∃ N, b.length = N := ⟨_, rfl⟩
  have HC := keep hc
  have HBS := keep hbs
  have HB := keep hb
  have HAT := keep hat
  rw [hN] at HB HAT HP ⊢
  have HN := keep hN
  clear hc hbs hb hat hN
  go_enter Tryd.func56, Tryd.ntmps56
  go_wp2_with fail
  go_loopw [7] (fun v7 wr => ∃ i : Nat, at' ≤ i ∧ i ≤ N ∧ v7 = .int .i64 (i : Nat) ∧ wr = w ∧ Kept (Rp.clean ((b.drop at').take (i - at')) = true)) (fun v7 _ => N - (intOf v7).toNat)
  case atStart => exact ⟨at', Nat.le_refl _, HAT.out, rfl, rfl, keep (by rw [Nat.sub_self, List.take_zero]; rfl)⟩
  case round =>
    obtain ⟨i, hai, hi, rfl, hwr, KC⟩ := hrel
    obtain rfl := hwr.symm
    clear hwr
    have hspl : b.drop at' = (b.drop at').take (i - at') ++ b.drop i := by
      conv => lhs; rw [← List.take_append_drop (i - at') (b.drop at')]
      rw [List.drop_drop, show at' + (i - at') = i by omega]
    by_cases hlt : i < N
    · have hz : (i : Int) < (N : Int) := by omega
      have hz0 : (0 : Int) ≤ (i : Int) := by omega
      have hwi : IntKind.i64.wrap ((i : Int) + 1) = ((i + 1 : Nat) : Int) := by have := HB.out; rw [IntKind.wrap_i64]; omega
      have hwi2 : IntKind.i64.wrap ((i : Int) + 2) = ((i + 2 : Nat) : Int) := by have := HB.out; rw [IntKind.wrap_i64]; omega
      obtain ⟨M, hM⟩ : ∃ M, N = M + 1 := ⟨N - 1, by omega⟩
      have hwM : IntKind.i64.wrap ((N : Int) - 1) = (M : Int) := by have := HB.out; rw [IntKind.wrap_i64]; omega
      obtain ⟨x, hx⟩ : ∃ x, b[i]? = some x := ⟨_, List.getElem?_eq_getElem (by rw [HN.out]; exact hlt)⟩
      obtain ⟨g, o, rfl, hg, hcell⟩ := HBS.out.resolve_left (fun e => by rw [e] at hx; simp at hx)
      have cx : w.cell? ⟨g, o + i, none⟩ = some (.int .u8 (x.toNat : Int)) := hcell i x hx
      have hdr : b.drop i = x :: b.drop (i + 1) := by
        obtain ⟨h1, h2⟩ := List.getElem?_eq_some_iff.1 hx
        rw [List.drop_eq_getElem_cons h1, h2]
      rw [hdr] at hspl
      have hlf : Rp.lineF (b.drop at') = match Rp.lineF (x :: b.drop (i + 1)) with | .error e => .error e | .ok (a, r) => .ok ((b.drop at').take (i - at') ++ a, r) := by
        conv => lhs; rw [hspl]
        exact Rp.lineF_past _ _ KC.out
      have q10 := beq_u8 x 10
      have q13 := beq_u8 x 13
      have HLF := keep hlf
      have HLT := keep hlt
      have HM := keep hM
      have HAI := keep hai
      have HCELL := keep hcell
      have HDR := keep hdr
      have HX := keep hx
      have HSP := keep hspl
      clear hspl hlf hdr hM hcell hx
      by_cases h10 : x = 10
      · rw [decide_eq_true h10] at q10
        have q10' : ((x.toNat : Int) == 10) = true := q10
        have HE : Kept (Rp.lineF (b.drop at') = .error 160) := keep (by rw [HLF.out, Rp.lineF_cons, if_pos h10])
        clear q10 q13 h10
        go_wp2_with fail
        go_ret3
        rw [HP.out, HE.out]
        exact ⟨rfl, rfl⟩
      · rw [decide_eq_false h10] at q10
        have q10' : ((x.toNat : Int) == 10) = false := q10
        have H10 := keep h10
        clear q10 h10
        by_cases h13 : x = 13
        · rw [decide_eq_true h13] at q13
          have q13' : ((x.toNat : Int) == 13) = true := q13
          have H13 := keep h13
          clear q13 h13
          by_cases hiM : i = M
          · have qM : ((i : Int) == (M : Int)) = true := by simp [hiM]
            have HE : Kept (Rp.lineF (b.drop at') = .error 5) := keep (by
              rw [HLF.out, Rp.lineF_cons, if_neg H10.out, if_pos H13.out, List.drop_of_length_le (by rw [HN.out]; have := HM.out; omega)])
            clear hiM
            go_wp2_with fail
            go_ret3
            rw [HP.out, HE.out]
            exact ⟨rfl, rfl⟩
          · have qM : ((i : Int) == (M : Int)) = false := by simp; omega
            obtain ⟨y, hy⟩ : ∃ y, b[i + 1]? = some y := ⟨_, List.getElem?_eq_getElem (by rw [HN.out]; have := HM.out; have := HLT.out; omega)⟩
            have cy : w.cell? ⟨g, o + (i + 1), none⟩ = some (.int .u8 (y.toNat : Int)) := HCELL.out (i + 1) y hy
            have hdr2 : b.drop (i + 1) = y :: b.drop (i + 2) := by
              obtain ⟨h1, h2⟩ := List.getElem?_eq_some_iff.1 hy
              rw [List.drop_eq_getElem_cons h1, h2]
            have hz1 : ((i + 1 : Nat) : Int) < (N : Int) := by have := HM.out; have := HLT.out; omega
            have hz10 : (0 : Int) ≤ ((i + 1 : Nat) : Int) := by omega
            obtain ⟨i1, hi1⟩ : ∃ i1, i + 1 = i1 := ⟨_, rfl⟩
            have qy : ((y.toNat : Int) != 10) = !decide (y = 10) := by rw [bne, show ((y.toNat : Int) == 10) = decide (y = 10) from beq_u8 y 10]
            have HD2 := keep hdr2
            have HI1 := keep hi1
            rw [hi1] at cy hz1 hz10 hwi
            clear hdr2 hy hi1 hiM
            by_cases hy10 : y = 10
            · rw [decide_eq_true hy10] at qy
              obtain ⟨a, d, sl, cv⟩ := cut_text (by rw [HN.out]; exact (HN.out ▸ HC.out)) HCELL.out at' i HAI.out (by rw [HN.out]; exact Nat.le_of_lt HLT.out)
              rw [HN.out] at sl
              have HE : Kept (Rp.lineF (b.drop at') = .ok ((b.drop at').take (i - at'), b.drop (i + 2))) := keep (by
                rw [HLF.out, Rp.lineF_cons, if_neg H10.out, if_pos H13.out, HD2.out]
                simp [hy10])
              have hle : i + 2 ≤ N := by have := HI1.out; omega
              have HLE := keep hle
              clear hy10 hle
              go_wp2_with fail
              go_ret3
              rw [HP.out, HE.out]
              refine ⟨?_, rfl⟩
              show _ = Ending.returned (.tuple #[.string (Rp.ofL _), .int .i64 ((N - (b.drop (i + 2)).length : Nat) : Int), .int .i64 0])
              rw [List.length_drop, HN.out, show N - (N - (i + 2)) = i + 2 by have := HLE.out; omega]
              rfl
            · rw [decide_eq_false hy10] at qy
              have HE : Kept (Rp.lineF (b.drop at') = .error 160) := keep (by
                rw [HLF.out, Rp.lineF_cons, if_neg H10.out, if_pos H13.out, HD2.out]
                simp [hy10])
              clear hy10
              go_wp2_with fail
              go_ret3
              rw [HP.out, HE.out]
              exact ⟨rfl, rfl⟩
        · rw [decide_eq_false h13] at q13
          have q13' : ((x.toNat : Int) == 13) = false := q13
          have HCN : Kept (Rp.clean ((b.drop at').take (i + 1 - at')) = true) := keep (by
            have e : (b.drop at').take (i + 1 - at') = (b.drop at').take (i - at') ++ [x] := by
              rw [show i + 1 - at' = (i - at') + 1 by have := HAI.out; omega, List.take_add_one, List.getElem?_drop, show at' + (i - at') = i by have := HAI.out; omega, HX.out]
              rfl
            rw [e]
            have hk := KC.out
            unfold Rp.clean at hk ⊢
            rw [List.all_append, hk]
            simp [H10.out, h13])
          clear q13 h13
          go_wp2_with fail
          go_roundw
          case measure => have := HLT.out; simp [intOf]; omega
          case rel => exact ⟨i + 1, Nat.le_succ_of_le HAI.out, HLT.out, by rfl, by first | trivial | rfl, HCN⟩
    · obtain rfl : i = N := by omega
      have hz : ¬ (i : Int) < (i : Int) := by omega
      have HE : Kept (Rp.lineF (b.drop at') = .error 5) := keep (by
        rw [hspl, List.drop_of_length_le (Nat.le_of_eq HN.out), Rp.lineF_past _ _ KC.out]
        rfl)
      clear hspl
      go_wp2_with fail
      go_ret3
      rw [HP.out, HE.out]
      exact ⟨rfl, rfl⟩
end Go.Proofs.YtoalnfkjpdgbiaaDoor

/-
  Contracts over this program: the document's own Error.
-/
namespace Go.Proofs.YtoalnfkjpdgbiaaDoor
open Go.RowKit
set_option linter.unusedVariables false
/-- bytes in a block, all of which may be written -/
def Wb (w : World) (g : Nat) (l : List UInt8) : Prop := ∃ (cur : Array Value) (a b : Nat), w.heap[g]? = some (.cells cur 5 (a, b)) ∧ l.length ≤ cur.size ∧ l.length ≤ a ∧ ∀ (j : Nat) (x : UInt8), l[j]? = some x → cur[j]? = some (Value.int .u8 (x.toNat : Int))
theorem Wb.cell {w : World} {g : Nat} {l : List UInt8} (h : Wb w g l) (j : Nat) (x : UInt8) (hx : l[j]? = some x) : w.cell? ⟨g, j, none⟩ = some (.int .u8 (x.toNat : Int)) := by
  obtain ⟨cur, a, b, hg, _, _, hc⟩ := h
  rw [cell_of_row _ _ _ _ _ _ hg]
  exact hc j x hx
theorem Wb.free {w : World} {g : Nat} {l : List UInt8} (h : Wb w g l) (j : Nat) (hj : j < l.length) : w.frozen? ⟨g, j, none⟩ = false := by
  obtain ⟨cur, a, b, hg, _, ha, _⟩ := h
  unfold World.frozen?
  rw [hg]
  simp
  omega
theorem Wb.lt {w : World} {g : Nat} {l : List UInt8} (h : Wb w g l) : g < w.heap.size := by
  obtain ⟨cur, a, b, hg, _⟩ := h
  exact (Array.getElem?_eq_some_iff.1 hg).1
theorem Wb.set {w : World} {g : Nat} {l : List UInt8} (h : Wb w g l) (j : Nat) (x : UInt8) : Wb (w.setCell ⟨g, j, none⟩ (.int .u8 (x.toNat : Int))) g (l.set j x) := by
  obtain ⟨cur, a, b, hg, hs, ha, hc⟩ := h
  refine ⟨cur.setIfInBounds j (.int .u8 (x.toNat : Int)), a, b, by simp [World.setCell, Array.getElem?_modify, hg], by simpa using hs, by simpa using ha, fun k y hy => ?_⟩
  rw [List.getElem?_set] at hy
  rw [Array.getElem?_setIfInBounds]
  split at hy
  · rename_i e
    subst e
    split at hy
    · rw [if_pos rfl, if_pos (by omega)]
      cases hy
      rfl
    · cases hy
  · rename_i e
    rw [if_neg e]
    exact hc k y hy
def erB (x : UInt8) : UInt8 := if x = 13 then 32 else if x = 10 then 32 else x
def erL (l : List UInt8) (i : Nat) : List UInt8 := (l.take i).map erB ++ l.drop i
theorem erL_len (l : List UInt8) (i : Nat) : (erL l i).length = l.length := by
  unfold erL
  rw [List.length_append, List.length_map, List.length_take, List.length_drop]
  omega
theorem erL_at {l : List UInt8} {i : Nat} {x : UInt8} (h : l[i]? = some x) : (erL l i)[i]? = some x ∧ erL l (i + 1) = (erL l i).set i (erB x) := by
  have hi := (List.getElem?_eq_some_iff.1 h).1
  have hlen : ((l.take i).map erB).length = i := by rw [List.length_map, List.length_take]; omega
  obtain ⟨h1, h2⟩ := List.getElem?_eq_some_iff.1 h
  have hd : l.drop i = x :: l.drop (i + 1) := by rw [List.drop_eq_getElem_cons h1, h2]
  unfold erL
  refine ⟨?_, ?_⟩
  · rw [List.getElem?_append_right (by omega), hlen, Nat.sub_self, hd]; rfl
  · rw [List.set_append_right _ _ (by omega), hlen, Nat.sub_self, hd, List.take_add_one, h]
    simp
theorem erL_all (s : ByteArray) : Rp.ofL (erL (Rp.bytesOf s) s.size) = errT s := by
  unfold erL errT
  have hl : (Rp.bytesOf s).length = s.size := Rp.bytes_len s
  rw [← hl, List.take_length, List.drop_length, List.append_nil, List.map_map]
  congr 1
  refine List.map_congr_left fun x _ => ?_
  show erB x = (fun y => if y = 10 then 32 else y) ((fun y => if y = 13 then 32 else y) x)
  unfold erB
  by_cases h : x = 13
  · simp [h]
  · simp [h]
theorem erB_same {x : UInt8} (h1 : x ≠ 13) (h2 : x ≠ 10) : erB x = x := by unfold erB; rw [if_neg h1, if_neg h2]
theorem set_same {l : List UInt8} {i : Nat} {x : UInt8} (h : l[i]? = some x) : l.set i x = l := by
  obtain ⟨h1, h2⟩ := List.getElem?_eq_some_iff.1 h
  rw [← h2]
  exact List.set_getElem_self h1
theorem wb_made (s : ByteArray) (w : World) : ∃ c w', (convert 9 29 (.string s)).run Tryd.prog w = .ok (.slice (some ⟨w.heap.size, 0, none⟩) s.size c) w' ∧ Wb w' w.heap.size (Rp.bytesOf s) ∧ Below w.heap.size w w' := by
  obtain ⟨c, hc⟩ : ∃ c, grownCap w s.size 0 5 = c := ⟨_, rfl⟩
  have hcc : s.size ≤ c := hc ▸ grownCap_ge _ _ _ _
  have h := run_bytes_of_string (P := Tryd.prog) w 9 29 5 s Tryd.underlying9 Tryd.underlying29 Tryd.underlying5
  rw [hc] at h
  have hat : ∀ (j : Nat) (x : UInt8), (Rp.bytesOf s)[j]? = some x → (bytesRow s c)[j]? = some (Value.int .u8 (x.toNat : Int)) := fun j x hx => by
    have hj : j < s.data.size := by
      have := (List.getElem?_eq_some_iff.1 hx).1
      simpa [Rp.bytesOf] using this
    rw [bytesRow_at s c j hj]
    have h3 : s.data[j]? = some x := by rw [← Array.getElem?_toList]; exact hx
    rw [Array.getElem?_eq_getElem hj] at h3
    rw [Option.some.inj h3]
  have hsz : (Rp.bytesOf s).length ≤ (bytesRow s c).size := by
    apply Decidable.byContradiction
    intro hn
    have h1 : (bytesRow s c).size < (Rp.bytesOf s).length := by omega
    have h2 := hat _ _ (List.getElem?_eq_getElem h1)
    rw [Array.getElem?_eq_none (Nat.le_refl _)] at h2
    cases h2
  exact ⟨c, _, h, ⟨bytesRow s c, _, _, heap_alloc_new _ _, hsz, hsz, hat⟩, ⟨rfl, rfl, rfl, by show w.heap.size ≤ (w.heap.push _).size; simp, fun k hk => by show (w.heap.push _)[k]? = _; rw [Array.getElem?_push_lt hk, Array.getElem?_eq_getElem hk]⟩⟩
set_option maxRecDepth 100000 in
set_option maxHeartbeats 4000000 in
theorem rerror_any (s : ByteArray) (w : World) (hs : s.size ≤ 1048576) :
    Calls Tryd.prog 26 #[.string s] w fun e w' => e = .returned (.agg #[.int .i64 2, .string (errT s), .int .i64 0, .slice none 0 0]) ∧ Below w.heap.size w w' := by
  obtain ⟨PP, hPP⟩ : ∃ PP : Ending → World → Prop, PP = fun e w' => e = .returned (.agg #[.int .i64 2, .string (errT s), .int .i64 0, .slice none 0 0]) ∧ Below w.heap.size w w' := ⟨_, rfl⟩
  rw [← hPP]
  have HP := keep hPP
  clear hPP
  obtain ⟨W1, hW1⟩ : ∃ x, x = w.alloc (.cells #[.int .i64 0, .string ⟨#[]⟩, .int .i64 0, .slice none 0 0] 25) := ⟨_, rfl⟩
  have x1 : Box W1 w.heap.size (.int .i64 0) (.string ⟨#[]⟩) (.int .i64 0) (.slice none 0 0) := hW1 ▸ Box.new w _ _ _ _
  have b1 : Below w.heap.size w W1 := hW1 ▸ (Below.refl _ _).alloc (Nat.le_refl _) _
  obtain ⟨c, W2, conv, wb, b2⟩ := wb_made s W1
  have X2 := keep (x1.below b2 x1.lt)
  have B2 := keep (b1.trans (b2.mono b1.size))
  have hltg : w.heap.size < W1.heap.size := x1.lt
  obtain ⟨g, hg⟩ : ∃ g, W1.heap.size = g := ⟨_, rfl⟩
  rw [hg] at conv wb hltg
  have WB := keep wb
  have GL := keep hltg
  obtain ⟨l, hl⟩ : ∃ l, Rp.bytesOf s = l := ⟨_, rfl⟩
  rw [hl] at WB
  have hln : l.length = s.size := by rw [← hl, Rp.bytes_len]
  have EA := keep (show Rp.ofL (erL l s.size) = errT s by rw [← hl]; exact erL_all s)
  obtain ⟨N, hN⟩ : ∃ N, s.size = N := ⟨_, rfl⟩
  rw [hN] at conv hs EA hln
  have HLN := keep hln
  have HS := keep hs
  have hW1' := hW1.symm
  clear x1 b1 b2 wb hltg hg hW1 hl hln hN hs
  go_enter Tryd.func26, Tryd.ntmps26
  go_wp2_with fail
  clear conv hW1'
  go_loopw [10] (fun v10 wr => ∃ i : Nat, i ≤ N ∧ v10 = .int .i64 (i : Nat) ∧ Kept (Wb wr g (erL l i)) ∧ Kept (Box wr w.heap.size (.int .i64 0) (.string ⟨#[]⟩) (.int .i64 0) (.slice none 0 0)) ∧ Kept (Below w.heap.size w wr)) (fun v10 _ => N - (intOf v10).toNat)
  case atStart => exact ⟨0, Nat.zero_le _, rfl, keep (by unfold erL; simpa using WB.out), X2, B2⟩
  case round =>
    obtain ⟨i, hi, rfl, WR, XR, BR⟩ := hrel
    by_cases hlt : i < N
    · have h0 : (0 : Int) ≤ (i : Int) := by omega
      have h1 : (i : Int) < (N : Int) := by omega
      have nw : IntKind.i64.wrap ((i : Int) + 1) = ((i + 1 : Nat) : Int) := by have := HS.out; rw [IntKind.wrap_i64]; omega
      obtain ⟨x, hx⟩ : ∃ x, l[i]? = some x := ⟨_, List.getElem?_eq_getElem (by rw [HLN.out]; exact hlt)⟩
      obtain ⟨e1, e2⟩ := erL_at hx
      have cx := WR.out.cell i x e1
      have fr := WR.out.free i (by rw [erL_len, HLN.out]; exact hlt)
      have E1 := keep e1
      have E2 := keep e2
      have HLT := keep hlt
      obtain ⟨z, hz⟩ : ∃ z : Int, z = (x.toNat : Int) := ⟨_, rfl⟩
      have z13 : (z == 13) = decide (x = 13) := by rw [hz]; exact beq_u8 x 13
      have z10 : (z == 10) = decide (x = 10) := by rw [hz]; exact beq_u8 x 10
      rw [← hz] at cx
      clear hz e1 e2 hx hlt hi
      by_cases c1 : x = 13
      · rw [decide_eq_true c1] at z13
        have WN : Kept (Wb (wr.setCell ⟨g, i, none⟩ (.int .u8 32)) g (erL l (i + 1))) := keep (by
          rw [E2.out, show erB x = 32 by unfold erB; rw [if_pos c1]]
          exact WR.out.set i 32)
        clear c1 z10
        go_wp2_with fail
        go_roundw
        case measure => have := HLT.out; simp [intOf]; omega
        case rel => exact ⟨i + 1, HLT.out, by rfl, WN, keep ((one_other (by have := GL.out; omega) _).trans XR.out), keep (BR.out.setCell (p := ⟨g, i, none⟩) (by have := GL.out; show w.heap.size ≤ g; omega) _)⟩
      · rw [decide_eq_false c1] at z13
        by_cases c2 : x = 10
        · rw [decide_eq_true c2] at z10
          have WN : Kept (Wb (wr.setCell ⟨g, i, none⟩ (.int .u8 32)) g (erL l (i + 1))) := keep (by
            rw [E2.out, show erB x = 32 by unfold erB; rw [if_neg c1, if_pos c2]]
            exact WR.out.set i 32)
          clear c1 c2
          go_wp2_with fail
          go_roundw
          case measure => have := HLT.out; simp [intOf]; omega
          case rel => exact ⟨i + 1, HLT.out, by rfl, WN, keep ((one_other (by have := GL.out; omega) _).trans XR.out), keep (BR.out.setCell (p := ⟨g, i, none⟩) (by have := GL.out; show w.heap.size ≤ g; omega) _)⟩
        · rw [decide_eq_false c2] at z10
          have WN : Kept (Wb wr g (erL l (i + 1))) := keep (by
            rw [E2.out, erB_same c1 c2, set_same E1.out]
            exact WR.out)
          clear c1 c2
          go_wp2_with fail
          go_roundw
          case measure => have := HLT.out; simp [intOf]; omega
          case rel => exact ⟨i + 1, HLT.out, by rfl, WN, XR, BR⟩
    · obtain rfl : i = N := by omega
      have h1 : ¬ (i : Int) < (i : Int) := by omega
      have cv : (convert 29 9 (.slice (some ⟨g, 0, none⟩) i c)).run Tryd.prog wr = .ok (.string (errT s)) wr := by
        have := bytes_text (w := wr) (g := g) (o := 0) (k := i) (c := c) (l := erL l i) (by rw [erL_len, HLN.out]; exact Nat.le_refl _) (fun j x hx => by rw [Nat.zero_add]; exact WR.out.cell j x hx)
        rwa [List.take_of_length_le (by rw [erL_len, HLN.out]; exact Nat.le_refl _), EA.out] at this
      obtain ⟨d0, d1, d2, d3⟩ := XR.out.cells
      have f0 := XR.out.free 0
      have f1 := XR.out.free 1
      have f2 := XR.out.free 2
      have f3 := XR.out.free 3
      clear hlt hi
      go_wp2_with fail
      refine bodyPost_ret (res_rp1 rfl _ _ w.heap.size _ _ _ _ rfl (Box.four XR.out _ _ _ _)) rfl ?_
      rw [HP.out]
      exact ⟨rfl, Below.four BR.out (Nat.le_refl _) _ _ _ _⟩
end Go.Proofs.YtoalnfkjpdgbiaaDoor

/-
  Contracts over this program: the makers of a text, of a number, of none, the document's own and the program's.
-/
namespace Go.Proofs.YtoalnfkjpdgbiaaDoor
open Go.RowKit
set_option linter.unusedVariables false
theorem rsimple_any (s : ByteArray) (w : World) :
    Calls Tryd.prog 24 #[.string s] w fun e w' => e = .returned (.agg #[.int .i64 1, .string s, .int .i64 0, .slice none 0 0]) ∧ Below w.heap.size w w' := by
  go_enter Tryd.func24, Tryd.ntmps24
  go_wp2
  (try simp only [Exit.inBlock, Exit.then])
  refine bodyPost_ret (res_rp1 rfl _ _ _ _ _ _ _ rfl (Box.new _ _ _ _ _)) rfl ?_
  exact ⟨rfl, (Below.refl _ _).alloc (Nat.le_refl _) _⟩
theorem rint1_any (n : Int) (w : World) :
    Calls Tryd.prog 28 #[.int .i64 n] w fun e w' => e = .returned (.agg #[.int .i64 3, .string ⟨#[]⟩, .int .i64 n, .slice none 0 0]) ∧ Below w.heap.size w w' := by
  go_enter Tryd.func28, Tryd.ntmps28
  go_wp2
  (try simp only [Exit.inBlock, Exit.then])
  refine bodyPost_ret (res_rp1 rfl _ _ _ _ _ _ _ rfl (Box.new _ _ _ _ _)) rfl ?_
  exact ⟨rfl, (Below.refl _ _).alloc (Nat.le_refl _) _⟩
theorem rbulk1_any (s : ByteArray) (w : World) :
    Calls Tryd.prog 30 #[.string s] w fun e w' => e = .returned (.agg #[.int .i64 4, .string s, .int .i64 0, .slice none 0 0]) ∧ Below w.heap.size w w' := by
  go_enter Tryd.func30, Tryd.ntmps30
  go_wp2
  (try simp only [Exit.inBlock, Exit.then])
  refine bodyPost_ret (res_rp1 rfl _ _ _ _ _ _ _ rfl (Box.new _ _ _ _ _)) rfl ?_
  exact ⟨rfl, (Below.refl _ _).alloc (Nat.le_refl _) _⟩
theorem rnull1_any (w : World) :
    Calls Tryd.prog 32 #[] w fun e w' => e = .returned (.agg #[.int .i64 5, .string ⟨#[]⟩, .int .i64 0, .slice none 0 0]) ∧ Below w.heap.size w w' := by
  go_enter Tryd.func32, Tryd.ntmps32
  go_wp2
  (try simp only [Exit.inBlock, Exit.then])
  refine bodyPost_ret (res_rp1 rfl _ _ _ _ _ _ _ rfl (Box.new _ _ _ _ _)) rfl ?_
  exact ⟨rfl, (Below.refl _ _).alloc (Nat.le_refl _) _⟩
theorem null1_any (w : World) :
    Calls Tryd.prog 31 #[] w fun e w' => e = .returned (.agg #[.int .i64 5, .string ⟨#[]⟩, .int .i64 0, .slice none 0 0]) ∧ Below w.heap.size w w' := by
  go_enter Tryd.func31, Tryd.ntmps31
  go_wp2
  (try simp only [Exit.inBlock, Exit.then])
  refine bodyPost_ret (res_rp1 rfl _ _ _ _ _ _ _ rfl (Box.new _ _ _ _ _)) rfl ?_
  exact ⟨rfl, (Below.refl _ _).alloc (Nat.le_refl _) _⟩
end Go.Proofs.YtoalnfkjpdgbiaaDoor

namespace Go.Proofs.YtoalnfkjpdgbiaaDoor
open Go.RowKit
set_option linter.unusedVariables false
theorem bk_tel (P : Nat → Prop) (w : World) (m : Nat) (s : ByteArray) (h : s.size ≤ 1048576) : Tel P w (m + 1) [.int .i64 4, .string s, .int .i64 0, .slice none 0 0] (bkR m s) :=
  ⟨_, rfl, .inl ⟨rfl, _, rfl⟩, ⟨by show (-9223372036854775808 : Int) ≤ 4; decide, by show (4 : Int) ≤ 9223372036854775807; decide⟩, ⟨by show (-9223372036854775808 : Int) ≤ 0; decide, by show (0 : Int) ≤ 9223372036854775807; decide⟩, by show s.size < 4294967281; omega⟩
set_option maxRecDepth 100000 in
set_option maxHeartbeats 8000000 in
theorem rbulks_any (m : Nat) (so : Option Addr) (cap : Nat) (S : List ByteArray) (w : World) (hT : Txs w so S) (hl : S.length ≤ 2000000) :
    Calls Tryd.prog 35 #[.slice so S.length cap] w fun e w' => (∃ v, e = .returned (.agg #[.int .i64 6, .string ⟨#[]⟩, .int .i64 0, v]) ∧ Tel (fun b => w.heap.size ≤ b ∧ b < w'.heap.size) w' (m + 2) [.int .i64 6, .string ⟨#[]⟩, .int .i64 0, v] (Rp.mk 6 .empty 0 (S.map (bkR m)))) ∧ Below w.heap.size w w' := by
  obtain ⟨PP, hPP⟩ : ∃ PP : Ending → World → Prop, PP = fun e w' => (∃ v, e = .returned (.agg #[.int .i64 6, .string ⟨#[]⟩, .int .i64 0, v]) ∧ Tel (fun b => w.heap.size ≤ b ∧ b < w'.heap.size) w' (m + 2) [.int .i64 6, .string ⟨#[]⟩, .int .i64 0, v] (Rp.mk 6 .empty 0 (S.map (bkR m)))) ∧ Below w.heap.size w w' := ⟨_, rfl⟩
  rw [← hPP]
  have HP := keep hPP
  clear hPP
  obtain ⟨n, hn⟩ : ∃ n, S.length = n := ⟨_, rfl⟩
  rw [hn] at hl ⊢
  obtain ⟨W1, hW1⟩ : ∃ x, x = w.alloc (.cells #[.int .i64 0, .string ⟨#[]⟩, .int .i64 0, .slice none 0 0] 25) := ⟨_, rfl⟩
  have x1 : Box W1 w.heap.size (.int .i64 0) (.string ⟨#[]⟩) (.int .i64 0) (.slice none 0 0) := hW1 ▸ Box.new w _ _ _ _
  have b1 : Below w.heap.size w W1 := hW1 ▸ (Below.refl _ _).alloc (Nat.le_refl _) _
  have z1 : W1.heap.size = w.heap.size + 1 := by rw [hW1]; show (w.heap.push _).size = _; simp
  obtain ⟨W4, hW4⟩ : ∃ x, x = W1.alloc (.cells #[.int .i64 0, .string ⟨#[]⟩, .int .i64 0, .slice none 0 0] 25) := ⟨_, rfl⟩
  have x4 : Box W4 W1.heap.size (.int .i64 0) (.string ⟨#[]⟩) (.int .i64 0) (.slice none 0 0) := hW4 ▸ Box.new W1 _ _ _ _
  have b4 : Below W1.heap.size W1 W4 := hW4 ▸ (Below.refl _ _).alloc (Nat.le_refl _) _
  obtain ⟨W3, hW3⟩ : ∃ x, x = set4 W4 W1.heap.size (.int .i64 6) (.string ⟨#[]⟩) (.int .i64 0) (.slice none 0 0) := ⟨_, rfl⟩
  have x3 : Box W3 W1.heap.size (.int .i64 6) (.string ⟨#[]⟩) (.int .i64 0) (.slice none 0 0) := hW3 ▸ Box.four x4 _ _ _ _
  have b3 : Below W1.heap.size W1 W3 := hW3 ▸ Below.four b4 (Nat.le_refl _) _ _ _ _
  have X3 := keep x3
  have X13 := keep (x1.below b3 x1.lt)
  have B3 := keep (b1.trans (b3.mono b1.size))
  have Z1 := keep z1
  have hW1' := hW1.symm
  have hW4' := hW4.symm
  have hW3' : (((W4.setCell ⟨W1.heap.size, 0, none⟩ (.int .i64 6)).setCell ⟨W1.heap.size, 1, none⟩ (.string ⟨#[]⟩)).setCell ⟨W1.heap.size, 2, none⟩ (.int .i64 0)).setCell ⟨W1.heap.size, 3, none⟩ (.slice none 0 0) = W3 := hW3.symm
  obtain ⟨y0, y1, y2, y3⟩ := x4.cells
  have v0 := x4.free 0
  have v1 := x4.free 1
  have v2 := x4.free 2
  have v3 := x4.free 3
  have HT := keep hT
  have HN := keep hn
  have HL := keep hl
  have low : w.heap.size ≤ W1.heap.size := by omega
  have hne : w.heap.size ≠ W1.heap.size := by omega
  have hlt3 := X3.out.lt
  clear hW1 hW4 hW3 x1 b1 x4 b4 x3 b3 z1 hT hn hl
  go_enter Tryd.func35, Tryd.ntmps35
  go_wp2_with fail
  clear hW1' hW4' hW3' y0 y1 y2 y3 v0 v1 v2 v3
  go_loopw [9] (fun j wr => ∃ (jj : Nat) (v : Value) (ts : List (Rp.T (m + 1))), j = .int .i64 (jj : Int) ∧ jj ≤ n ∧ Kept (Box wr W1.heap.size (.int .i64 6) (.string ⟨#[]⟩) (.int .i64 0) v) ∧ Kept (Box wr w.heap.size (.int .i64 0) (.string ⟨#[]⟩) (.int .i64 0) (.slice none 0 0)) ∧ Kept (Row W3.heap.size wr (m + 1) v ts) ∧ Kept (ts = (S.take jj).map (bkR m)) ∧ Kept (Below w.heap.size w wr) ∧ Kept (W3.heap.size ≤ wr.heap.size)) (fun j _ => n - (intOf j).toNat)
  case atStart => exact ⟨0, .slice none 0 0, [], rfl, Nat.zero_le _, X3, X13, keep (Row.nil _ _ _), keep rfl, B3, keep (Nat.le_refl _)⟩
  case round =>
    obtain ⟨jj, v, ts, rfl, hj, X6, X4, RW, TS, BW, SZ⟩ := hrel
    have TL : Kept (ts.length = jj) := keep (by rw [TS.out, List.length_map, List.length_take, HN.out]; omega)
    obtain ⟨aoV, cV, hvV⟩ := RW.out.form
    rw [TL.out] at hvV
    subst hvV
    by_cases hlt : jj < n
    · have h0 : (0 : Int) ≤ (jj : Int) := by omega
      have h1 : (jj : Int) < (n : Int) := by omega
      have nw : IntKind.i64.wrap ((jj : Int) + 1) = ((jj + 1 : Nat) : Int) := by have := HL.out; rw [IntKind.wrap_i64]; omega
      have hjS : jj < S.length := by rw [HN.out]; exact hlt
      obtain ⟨a, rfl, hab, hsz, hcs⟩ := HT.out jj hjS
      obtain ⟨s, hs⟩ : ∃ s, S[jj]'hjS = s := ⟨_, rfl⟩
      have hs2 : S[jj]? = some s := by rw [List.getElem?_eq_getElem hjS, hs]
      rw [hs] at hcs hsz
      have c0 := (BW.out.cell (by rw [ad_block]; exact hab)).trans hcs
      have HX := keep hs2
      have HLT := keep hlt
      have HSZ := keep hsz
      obtain ⟨WD, hWD⟩ : ∃ x, x = wr.drew := ⟨_, rfl⟩
      have bD : Below wr.heap.size wr WD := hWD ▸ (Below.refl _ wr).drew
      have zD : Kept (WD.heap.size = wr.heap.size) := keep (by rw [hWD]; rfl)
      have X6A : Kept (Box WD W1.heap.size (.int .i64 6) (.string ⟨#[]⟩) (.int .i64 0) (.slice aoV jj cV)) := keep (X6.out.below bD X6.out.lt)
      have CALL := keep (rbulk1_any s WD)
      have END : ∀ (w2 : World), Below WD.heap.size WD w2 → ∃ (w4 w6 : World) (aoN : Option Addr) (q6 cN : Nat),
          Kept (w4 = w2.alloc (.cells #[.int .i64 4, .string s, .int .i64 0, .slice none 0 0] 25)) ∧
          Kept ((Instr.buildSlice 23 1 #[(0, .agg #[.int .i64 4, .string s, .int .i64 0, .slice none 0 0])]).run Tryd.prog w2 = .ok (.slice (some ⟨w2.heap.size, 0, none⟩) 1 1) w4) ∧
          Kept ((Builtin.append_ #[23, 23] 23 #[.slice aoV jj cV, .slice (some ⟨w2.heap.size, 0, none⟩) 1 1]).run Tryd.prog w4 = .ok (.slice aoN q6 cN) w6) ∧
          Kept (Row W3.heap.size w6 (m + 1) (.slice aoN q6 cN) (ts ++ [bkR m s])) ∧
          Kept (Box w2 W1.heap.size (.int .i64 6) (.string ⟨#[]⟩) (.int .i64 0) (.slice aoV jj cV)) ∧ Kept (Box w6 W1.heap.size (.int .i64 6) (.string ⟨#[]⟩) (.int .i64 0) (.slice aoV jj cV)) ∧ Kept (Box w6 w.heap.size (.int .i64 0) (.string ⟨#[]⟩) (.int .i64 0) (.slice none 0 0)) ∧
          Kept (Box w4 W1.heap.size (.int .i64 6) (.string ⟨#[]⟩) (.int .i64 0) (.slice aoV jj cV)) ∧
          Kept (Below w.heap.size w w6) ∧ Kept (W3.heap.size ≤ w6.heap.size) := by
        intro w2 b2
        have b02 : Below wr.heap.size wr w2 := bD.trans (b2.mono bD.size)
        have row2 : Row W3.heap.size w2 (m + 1) (.slice aoV jj cV) ts := RW.out.later b02.size (fun b h1 h2 => b02.block b h2)
        obtain ⟨v', w6, run6, row6, gr6⟩ := row_app row2 (bk_tel (Mine W3.heap.size w2 (.slice aoV jj cV)) w2 m s HSZ.out) (by have := TL.out; have := HL.out; omega) (Nat.le_trans SZ.out b02.size) 23
        obtain ⟨aoN, cN, hv6⟩ := row6.form
        obtain ⟨q6, hq6⟩ : ∃ q, (ts ++ [bkR m s]).length = q := ⟨_, rfl⟩
        rw [hq6] at hv6
        subst hv6
        have bs : (Instr.buildSlice 23 1 #[(0, .agg #[.int .i64 4, .string s, .int .i64 0, .slice none 0 0])]).run Tryd.prog w2 = .ok (.slice (some ⟨w2.heap.size, 0, none⟩) 1 1) (w2.alloc (.cells #[.int .i64 4, .string s, .int .i64 0, .slice none 0 0] 25)) := by
          obtain ⟨i0, hi0, hz0, hz1, hz2⟩ := parts_of info_rp
          exact run_buildSlice w2 _ _ 1 _ _ i0 _ Tryd.underlying23 hi0 hz0 (by rw [hz1]; decide) (by rw [hz1]; decide) (by rw [hz1]; simp [Instr.fill, Value.cells, Array.range, List.zipIdx]; rfl)
        have o6 : (Value.slice aoV jj cV).ownBlock ≠ some W1.heap.size := fun e => by have := (RW.out.own e).1; omega
        have o4 : (Value.slice aoV jj cV).ownBlock ≠ some w.heap.size := fun e => by have := (RW.out.own e).1; omega
        have x62 := X6.out.below b02 X6.out.lt
        have x42 := X4.out.below b02 X4.out.lt
        have b4 : Below w2.heap.size w2 (w2.alloc (.cells #[.int .i64 4, .string s, .int .i64 0, .slice none 0 0] 25)) := (Below.refl _ _).alloc (Nat.le_refl _) _
        exact ⟨_, w6, aoN, q6, cN, keep rfl, keep bs, keep run6, keep row6, keep x62, keep ((gr6.from x62.lt o6).trans x62), keep ((gr6.from x42.lt o4).trans x42), keep (x62.below b4 x62.lt),
          keep ((BW.out.trans (b02.mono BW.out.size)).trans (gr6.below (Nat.le_trans BW.out.size b02.size) (fun k hk => by have := (RW.out.own hk).1; omega))), keep (Nat.le_trans SZ.out (Nat.le_trans b02.size gr6.size))⟩
      have E := keep END
      clear END hab hsz hcs hs hs2 hjS hlt bD
      go_upto_region 5 with fail
      refine wp_region_held_drew (S := fun _ => True) (by kernel_rfl) trivial (fun hHeld => ?_)
      rw [← hWD]
      clear hWD
      obtain ⟨k0, k1, k2, k3⟩ := X6A.out.cells
      refine wpAnyH_take (i := 0) (oi := { dst := some 13, op := _, type := _, pos := _, after := _, guard := _ }) (v := ?v1) rfl (by kernel_rfl) (by kernel_rfl) (by kernel_rfl) (fun _ _ _ h => h) (Or.inl ⟨by rfl, ?hy1⟩) (by assumption) ?rest1
      case hy1 => (intro w hSw; go_simp; try with_reducible rfl)
      try simp only [Act.put, List.setIfInBounds_toArray, List.set_cons_zero, List.set_cons_succ]
      refine wpAnyH_take (i := 2) (oi := { dst := some 15, op := _, type := _, pos := _, after := _, guard := _ }) (v := (.string s)) rfl (by kernel_rfl) (by kernel_rfl) (by kernel_rfl) (fun _ _ _ h => h) (Or.inl ⟨by rfl, ?hy2⟩) (by assumption) ?rest2
      case hy2 => (intro w hSw; first | (go_simp; done) | (go_simp; simp [*]; done) | (simp [*]; go_simp; done))
      try simp only [Act.put, List.setIfInBounds_toArray, List.set_cons_zero, List.set_cons_succ]
      refine wpAnyH_ready (rs := [1, 3]) (by kernel_rfl) (by simp) ?_
      refine AllReadyH.cons (o := { dst := some 14, op := _, type := _, pos := _, after := _, guard := _ }) rfl (fun K hK => ?_) (AllReadyH.cons (o := { dst := some 16, op := _, type := _, pos := _, after := _, guard := _ }) rfl (fun K hK => ?_) AllReadyH.nil)
      · go_simp
        refine hK.out _ _ trivial (fun hHeld => ?_)
        try simp only [Act.put, List.setIfInBounds_toArray, List.set_cons_zero, List.set_cons_succ]
        clear hK
        refine wpAnyH_ready (rs := [3]) (by kernel_rfl) (by simp) ?_
        refine AllReadyH.cons (o := { dst := some 16, op := _, type := _, pos := _, after := _, guard := _ }) rfl (fun K hK => ?_) AllReadyH.nil
        go_simp
        refine CALL.out.mono ?_
        rintro e w2 ⟨rfl, he⟩
        obtain ⟨w4, w6, aoN, q6, cN, W4E, BS, RUN, R6, X62, X66, X46, X64, BW6, SZ6⟩ := E.out w2 he
        refine hK.out _ _ trivial (fun hHeld => ?_)
        try simp only [Act.put, List.setIfInBounds_toArray, List.set_cons_zero, List.set_cons_succ]
        clear hK he
        refine wpAnyH_ready (rs := [4]) (by kernel_rfl) (by simp) ?_
        refine AllReadyH.cons (o := { dst := some 17, op := _, type := _, pos := _, after := _, guard := _ }) rfl (fun K hK => ?_) AllReadyH.nil
        go_simp
        rw [← W4E.out]
        refine hK.out _ _ trivial (fun hHeld => ?_)
        try simp only [Act.put, List.setIfInBounds_toArray, List.set_cons_zero, List.set_cons_succ]
        clear hK
        refine wpAnyH_ready (rs := [5]) (by kernel_rfl) (by simp) ?_
        refine AllReadyH.cons (o := { dst := some 18, op := _, type := _, pos := _, after := _, guard := _ }) rfl (fun K hK => ?_) AllReadyH.nil
        refine wp_app_run (.tmp 14) (.tmp 17) 23 23 rfl _ _ _ rfl rfl RUN.out ?_
        refine hK.out _ _ trivial (fun hHeld => ?_)
        try simp only [Act.put, List.setIfInBounds_toArray, List.set_cons_zero, List.set_cons_succ]
        clear hK
        refine wpAnyH_take (i := 6) (oi := { dst := some 19, op := _, type := _, pos := _, after := _, guard := _ }) (v := ?v3) rfl (by kernel_rfl) (by kernel_rfl) (by kernel_rfl) (fun _ _ _ h => h) (Or.inl ⟨by rfl, ?hy3⟩) (by assumption) ?rest3
        case hy3 => (intro w hSw; go_simp; try with_reducible rfl)
        try simp only [Act.put, List.setIfInBounds_toArray, List.set_cons_zero, List.set_cons_succ]
        refine wpAnyH_ready (rs := [7]) (by kernel_rfl) (by simp) ?_
        refine AllReadyH.cons (o := { dst := none, op := _, type := _, pos := _, after := _, guard := _ }) rfl (fun K hK => ?_) AllReadyH.nil
        obtain ⟨i0, i1, i2, i3⟩ := X66.out.cells
        have u3 := X66.out.free 3
        go_simp
        refine hK.out _ _ trivial (fun hHeld => ?_)
        try simp only [Act.put, List.setIfInBounds_toArray, List.set_cons_zero, List.set_cons_succ]
        clear hK
        refine wpAnyH_done (by kernel_rfl) ?_ _
        clear hHeld
        go_wp2
        go_roundw
        case measure => have := HLT.out; simp [intOf]; omega
        case rel =>
          have hz7 : (w6.setCell ⟨W1.heap.size, 3, none⟩ (.slice aoN q6 cN)).heap.size = w6.heap.size := by simp [World.setCell]
          have h7 : ∀ b, b ≠ W1.heap.size → (w6.setCell ⟨W1.heap.size, 3, none⟩ (.slice aoN q6 cN)).heap[b]? = w6.heap[b]? := fun b hb => one_other hb _
          exact ⟨jj + 1, .slice aoN q6 cN, ts ++ [bkR m s], by rfl, HLT.out, keep (X66.out.three _), keep ((h7 _ hne).trans X46.out), keep (R6.out.later (Nat.le_of_eq hz7.symm) (fun b h1 h2 => h7 b (by omega))), keep (by rw [TS.out, List.take_add_one, HX.out, List.map_append]; rfl), keep (BW6.out.setCell (p := ⟨W1.heap.size, 3, none⟩) low _), keep (by rw [hz7]; exact SZ6.out)⟩
      · go_simp
        refine CALL.out.mono ?_
        rintro e w2 ⟨rfl, he⟩
        obtain ⟨w4, w6, aoN, q6, cN, W4E, BS, RUN, R6, X62, X66, X46, X64, BW6, SZ6⟩ := E.out w2 he
        refine hK.out _ _ trivial (fun hHeld => ?_)
        try simp only [Act.put, List.setIfInBounds_toArray, List.set_cons_zero, List.set_cons_succ]
        clear hK he
        refine wpAnyH_ready (rs := [1, 4]) (by kernel_rfl) (by simp) ?_
        refine AllReadyH.cons (o := { dst := some 14, op := _, type := _, pos := _, after := _, guard := _ }) rfl (fun K hK => ?_) (AllReadyH.cons (o := { dst := some 17, op := _, type := _, pos := _, after := _, guard := _ }) rfl (fun K hK => ?_) AllReadyH.nil)
        · obtain ⟨k0, k1, k2, k3⟩ := X62.out.cells
          go_simp
          refine hK.out _ _ trivial (fun hHeld => ?_)
          try simp only [Act.put, List.setIfInBounds_toArray, List.set_cons_zero, List.set_cons_succ]
          clear hK
          refine wpAnyH_ready (rs := [4]) (by kernel_rfl) (by simp) ?_
          refine AllReadyH.cons (o := { dst := some 17, op := _, type := _, pos := _, after := _, guard := _ }) rfl (fun K hK => ?_) AllReadyH.nil
          go_simp
          rw [← W4E.out]
          refine hK.out _ _ trivial (fun hHeld => ?_)
          try simp only [Act.put, List.setIfInBounds_toArray, List.set_cons_zero, List.set_cons_succ]
          clear hK
          refine wpAnyH_ready (rs := [5]) (by kernel_rfl) (by simp) ?_
          refine AllReadyH.cons (o := { dst := some 18, op := _, type := _, pos := _, after := _, guard := _ }) rfl (fun K hK => ?_) AllReadyH.nil
          refine wp_app_run (.tmp 14) (.tmp 17) 23 23 rfl _ _ _ rfl rfl RUN.out ?_
          refine hK.out _ _ trivial (fun hHeld => ?_)
          try simp only [Act.put, List.setIfInBounds_toArray, List.set_cons_zero, List.set_cons_succ]
          clear hK
          refine wpAnyH_take (i := 6) (oi := { dst := some 19, op := _, type := _, pos := _, after := _, guard := _ }) (v := ?v4) rfl (by kernel_rfl) (by kernel_rfl) (by kernel_rfl) (fun _ _ _ h => h) (Or.inl ⟨by rfl, ?hy4⟩) (by assumption) ?rest4
          case hy4 => (intro w hSw; go_simp; try with_reducible rfl)
          try simp only [Act.put, List.setIfInBounds_toArray, List.set_cons_zero, List.set_cons_succ]
          refine wpAnyH_ready (rs := [7]) (by kernel_rfl) (by simp) ?_
          refine AllReadyH.cons (o := { dst := none, op := _, type := _, pos := _, after := _, guard := _ }) rfl (fun K hK => ?_) AllReadyH.nil
          obtain ⟨i0, i1, i2, i3⟩ := X66.out.cells
          have u3 := X66.out.free 3
          go_simp
          refine hK.out _ _ trivial (fun hHeld => ?_)
          try simp only [Act.put, List.setIfInBounds_toArray, List.set_cons_zero, List.set_cons_succ]
          clear hK
          refine wpAnyH_done (by kernel_rfl) ?_ _
          clear hHeld
          go_wp2
          go_roundw
          case measure => have := HLT.out; simp [intOf]; omega
          case rel =>
            have hz7 : (w6.setCell ⟨W1.heap.size, 3, none⟩ (.slice aoN q6 cN)).heap.size = w6.heap.size := by simp [World.setCell]
            have h7 : ∀ b, b ≠ W1.heap.size → (w6.setCell ⟨W1.heap.size, 3, none⟩ (.slice aoN q6 cN)).heap[b]? = w6.heap[b]? := fun b hb => one_other hb _
            exact ⟨jj + 1, .slice aoN q6 cN, ts ++ [bkR m s], by rfl, HLT.out, keep (X66.out.three _), keep ((h7 _ hne).trans X46.out), keep (R6.out.later (Nat.le_of_eq hz7.symm) (fun b h1 h2 => h7 b (by omega))), keep (by rw [TS.out, List.take_add_one, HX.out, List.map_append]; rfl), keep (BW6.out.setCell (p := ⟨W1.heap.size, 3, none⟩) low _), keep (by rw [hz7]; exact SZ6.out)⟩
        · go_simp
          rw [← W4E.out]
          refine hK.out _ _ trivial (fun hHeld => ?_)
          try simp only [Act.put, List.setIfInBounds_toArray, List.set_cons_zero, List.set_cons_succ]
          clear hK
          refine wpAnyH_ready (rs := [1]) (by kernel_rfl) (by simp) ?_
          refine AllReadyH.cons (o := { dst := some 14, op := _, type := _, pos := _, after := _, guard := _ }) rfl (fun K hK => ?_) AllReadyH.nil
          obtain ⟨k0, k1, k2, k3⟩ := X64.out.cells
          go_simp
          refine hK.out _ _ trivial (fun hHeld => ?_)
          try simp only [Act.put, List.setIfInBounds_toArray, List.set_cons_zero, List.set_cons_succ]
          clear hK
          refine wpAnyH_ready (rs := [5]) (by kernel_rfl) (by simp) ?_
          refine AllReadyH.cons (o := { dst := some 18, op := _, type := _, pos := _, after := _, guard := _ }) rfl (fun K hK => ?_) AllReadyH.nil
          refine wp_app_run (.tmp 14) (.tmp 17) 23 23 rfl _ _ _ rfl rfl RUN.out ?_
          refine hK.out _ _ trivial (fun hHeld => ?_)
          try simp only [Act.put, List.setIfInBounds_toArray, List.set_cons_zero, List.set_cons_succ]
          clear hK
          refine wpAnyH_take (i := 6) (oi := { dst := some 19, op := _, type := _, pos := _, after := _, guard := _ }) (v := ?v5) rfl (by kernel_rfl) (by kernel_rfl) (by kernel_rfl) (fun _ _ _ h => h) (Or.inl ⟨by rfl, ?hy5⟩) (by assumption) ?rest5
          case hy5 => (intro w hSw; go_simp; try with_reducible rfl)
          try simp only [Act.put, List.setIfInBounds_toArray, List.set_cons_zero, List.set_cons_succ]
          refine wpAnyH_ready (rs := [7]) (by kernel_rfl) (by simp) ?_
          refine AllReadyH.cons (o := { dst := none, op := _, type := _, pos := _, after := _, guard := _ }) rfl (fun K hK => ?_) AllReadyH.nil
          obtain ⟨i0, i1, i2, i3⟩ := X66.out.cells
          have u3 := X66.out.free 3
          go_simp
          refine hK.out _ _ trivial (fun hHeld => ?_)
          try simp only [Act.put, List.setIfInBounds_toArray, List.set_cons_zero, List.set_cons_succ]
          clear hK
          refine wpAnyH_done (by kernel_rfl) ?_ _
          clear hHeld
          go_wp2
          go_roundw
          case measure => have := HLT.out; simp [intOf]; omega
          case rel =>
            have hz7 : (w6.setCell ⟨W1.heap.size, 3, none⟩ (.slice aoN q6 cN)).heap.size = w6.heap.size := by simp [World.setCell]
            have h7 : ∀ b, b ≠ W1.heap.size → (w6.setCell ⟨W1.heap.size, 3, none⟩ (.slice aoN q6 cN)).heap[b]? = w6.heap[b]? := fun b hb => one_other hb _
            exact ⟨jj + 1, .slice aoN q6 cN, ts ++ [bkR m s], by rfl, HLT.out, keep (X66.out.three _), keep ((h7 _ hne).trans X46.out), keep (R6.out.later (Nat.le_of_eq hz7.symm) (fun b h1 h2 => h7 b (by omega))), keep (by rw [TS.out, List.take_add_one, HX.out, List.map_append]; rfl), keep (BW6.out.setCell (p := ⟨W1.heap.size, 3, none⟩) low _), keep (by rw [hz7]; exact SZ6.out)⟩
    · have h1 : ¬ (jj : Int) < (n : Int) := by omega
      obtain rfl : jj = n := by omega
      obtain ⟨e0, e1, e2, e3⟩ := X6.out.cells
      obtain ⟨g0, g1, g2, g3⟩ := X4.out.cells
      have f0 := X4.out.free 0
      have f1 := X4.out.free 1
      have f2 := X4.out.free 2
      have f3 := X4.out.free 3
      have TE : Kept (ts = S.map (bkR m)) := keep (by rw [TS.out, List.take_of_length_le (by rw [HN.out]; exact Nat.le_refl _)])
      go_wp2_with fail
      refine bodyPost_ret (res_rp1 rfl _ _ w.heap.size _ _ _ _ rfl (Box.four X4.out _ _ _ _)) rfl ?_
      rw [HP.out]
      have fz : (set4 wr w.heap.size (.int .i64 6) (.string ⟨#[]⟩) (.int .i64 0) (.slice aoV jj cV)).heap.size = wr.heap.size := by simp [set4, World.setCell]
      have hlow : ∀ b, (W3.heap.size ≤ b ∧ b < wr.heap.size) → (w.heap.size ≤ b ∧ b < (set4 wr w.heap.size (.int .i64 6) (.string ⟨#[]⟩) (.int .i64 0) (.slice aoV jj cV)).heap.size) := fun b h => ⟨by omega, by rw [fz]; exact h.2⟩
      have hsm : ∀ b, (W3.heap.size ≤ b ∧ b < wr.heap.size) → (set4 wr w.heap.size (.int .i64 6) (.string ⟨#[]⟩) (.int .i64 0) (.slice aoV jj cV)).heap[b]? = wr.heap[b]? := fun b h => four_other (by omega) _ _ _ _
      refine ⟨⟨_, rfl, ⟨_, rfl, ?_, ⟨by show (-9223372036854775808 : Int) ≤ 6; decide, by show (6 : Int) ≤ 9223372036854775807; decide⟩, ⟨by show (-9223372036854775808 : Int) ≤ 0; decide, by show (0 : Int) ≤ 9223372036854775807; decide⟩, by show (0 : Nat) < 4294967281; decide⟩⟩, Below.four BW.out (Nat.le_refl _) _ _ _ _⟩
      show Lst _ _ _ _ (S.map (bkR m))
      rw [← TE.out]
      exact RW.out.lst.mono hlow hsm (fun cs x hx => Tel.mono hlow hsm _ _ _ hx)
end Go.Proofs.YtoalnfkjpdgbiaaDoor
