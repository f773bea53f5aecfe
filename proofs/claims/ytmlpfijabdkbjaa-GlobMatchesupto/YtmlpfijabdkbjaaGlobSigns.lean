/-
  Contracts over this program: what glob.readSet, glob.readSign and means answer at any pattern.
-/
import Derived.Test.YtmlpfijabdkbjaaGlobSets
import Derived.Handy
import Derived.Below
import Derived.Laws.ResultCell
namespace Go.Proofs.Ytmlpfijabdkbjaa
open Go.RowKit
namespace Gb
theorem cut_end (s : ByteArray) (n : Nat) (h : s.size ≤ n) : setCut (D s n) = ([], []) := by rw [D_nil s n h]; rfl
theorem cut_close {s : ByteArray} {n : Nat} (h : n < s.size) (hb : (s[n].toNat : Int) = 93) : setCut (D s n) = ([], D s (n + 1)) := by
  rw [D_cons s n h, byte_is (b := 93) hb]
  cases D s (n + 1) <;> rfl
theorem cut_more {s : ByteArray} {n m : Nat} {b : UInt8} (h : n < s.size) (hb : ¬ (s[n].toNat : Int) = 93) (hr : rb (D s n) = (b, D s m)) (hm : n < m) (hm2 : m ≤ s.size) :
    setCut (D s n) = ((D s n).take (m - n) ++ (setCut (D s m)).1, (setCut (D s m)).2) := by
  have h93 := byte_no (b := 93) hb
  have hl := congrArg (fun x => x.2.length) hr
  simp only [D_len] at hl
  by_cases h1 : n + 1 < s.size
  · rw [D_cons s n h, D_cons s (n + 1) h1] at hr hl ⊢
    by_cases h92 : s[n] = 92
    · simp only [rb, if_pos h92] at hr hl
      rw [D_len] at hl
      have : m = n + 2 := by omega
      subst this
      simp only [setCut, if_neg h93, if_pos h92]
      rw [show n + 2 - n = 2 from by omega]
      rfl
    · simp only [rb, if_neg h92] at hr hl
      rw [List.length_cons, D_len] at hl
      have : m = n + 1 := by omega
      subst this
      simp only [setCut, if_neg h93, if_neg h92]
      rw [show n + 1 - n = 1 from by omega, D_cons s (n + 1) h1]
      rfl
  · rw [D_cons s n h, D_nil s (n + 1) (by omega)] at hr hl ⊢
    have : m = n + 1 := by omega
    subst this
    rw [D_nil s (n + 1) (by omega)]
    simp only [setCut, if_neg h93]
    rw [show n + 1 - n = 1 from by omega]
    rfl
/-- what the loop of readSet keeps -/
def cutRel (s : ByteArray) (a n : Nat) : Prop := setCut (D s a) = ((D s a).take (n - a) ++ (setCut (D s n)).1, (setCut (D s n)).2)
theorem cutRel_zero (s : ByteArray) (a : Nat) : cutRel s a a := by
  unfold cutRel; rw [Nat.sub_self]; rfl
theorem cutRel_step {s : ByteArray} {a n m : Nat} {b : UInt8} (hr0 : cutRel s a n) (ha : a ≤ n) (h : n < s.size) (hb : ¬ (s[n].toNat : Int) = 93) (hr : rb (D s n) = (b, D s m)) (hm : n < m) (hm2 : m ≤ s.size) : cutRel s a m := by
  unfold cutRel at *
  rw [hr0, cut_more h hb hr hm hm2]
  simp only [Prod.mk.injEq, and_true]
  rw [← List.append_assoc]
  congr 1
  have e : D s n = (D s a).drop (n - a) := by
    unfold D; rw [List.drop_drop]; congr 1; omega
  rw [e, ← List.take_add]
  congr 1; omega
theorem ext_list (s : ByteArray) (a n : Nat) : (s.extract a n).data.toList = (D s a).take (n - a) := by
  rw [ByteArray.data_extract, Array.toList_extract, List.extract_eq_take_drop]; rfl
theorem cut_done1 {s : ByteArray} {a n : Nat} (h : cutRel s a n) (hn : s.size ≤ n) : setCut (D s a) = ((s.extract a n).data.toList, D s s.size) := by
  unfold cutRel at h
  rw [h, cut_end s n hn, ext_list, List.append_nil, D_nil s s.size (Nat.le_refl _)]
theorem cut_done2 {s : ByteArray} {a n : Nat} (h : cutRel s a n) (hn : n < s.size) (hb : (s[n].toNat : Int) = 93) : setCut (D s a) = ((s.extract a n).data.toList, D s (n + 1)) := by
  unfold cutRel at h
  rw [h, cut_close hn hb, ext_list, List.append_nil]
end Gb
theorem bel_trans {w a b : World} (h : Below w.heap.size w a) (k : Below a.heap.size a b) : Below w.heap.size w b := h.trans (k.mono h.size)
/-- a sign as the program bears it -/
def signV (k : Int) (b : Int) (s : ByteArray) : Value := .agg #[.int .i64 k, .int .u8 b, .string s]
theorem ret_si {k c a b : Int} {t : ByteArray} (h : a = b) : Ending.returned (.tuple #[.agg #[.int .i64 k, .int .u8 c, .string t], .int .i64 a]) = .returned (.tuple #[signV k c t, .int .i64 b]) := by rw [h]; rfl
theorem ext_size (s : ByteArray) (a n : Nat) : (s.extract a n).size ≤ s.size := by
  rw [ByteArray.size_extract]; omega
set_option maxHeartbeats 1000000 in
theorem readSet_any (s : ByteArray) (a : Nat) (w : World) (hs : s.size ≤ 1099511627776) (ha : a ≤ s.size) :
    Calls Try.prog 12 #[.string s, .int .i64 a] w fun e w' => ∃ (t : ByteArray) (n : Nat), e = .returned (.tuple #[signV 3 0 t, .int .i64 n]) ∧ w' = w.alloc (Obj.cells #[.int .i64 3, .int .u8 0, .string t] 27) ∧ Gb.setCut (Gb.D s a) = (t.data.toList, Gb.D s n) ∧ a ≤ n ∧ n ≤ s.size ∧ t.size ≤ s.size := by
  go_enter Try.func12, Try.ntmps12
  go_wp2
  go_loop [6] (fun i => ∃ n : Nat, a ≤ n ∧ n ≤ s.size ∧ i = .int .i64 n ∧ Kept (Gb.cutRel s a n)) (fun i => (s.size - intOf i).toNat)
  case atStart => exact ⟨a, Nat.le_refl _, ha, rfl, Gb.cutRel_zero s a⟩
  case round =>
    obtain ⟨n, h1, h2, rfl, hr⟩ := hrel
    by_cases hlt : n < s.size
    · by_cases c : (s[n].toNat : Int) = 93
      · have st := keep (Gb.cut_done2 hr.out hlt c)
        go_wp2
        go_returns
        exact ⟨s.extract a n, n + 1, ret_si (by omega), rfl, st.out, by omega, by omega, ext_size s a n⟩
      · go_wp2_with fail
        refine (readByte_any s n _ hs hlt).mono ?_
        rintro e w' ⟨b, m, rfl, hw, hb, hm1, hm2⟩; obtain rfl := hw.symm
        have st := keep (Gb.cutRel_step hr.out h1 hlt c hb hm1 hm2)
        clear hb
        go_wp2
        go_round
        case rel => exact ⟨m, by omega, hm2, rfl, st⟩
        case measure => simp [intOf]; omega
    · have st := keep (Gb.cut_done1 hr.out (by omega))
      go_wp2
      go_returns
      exact ⟨s.extract a n, s.size, ret_si (by omega), rfl, st.out, by omega, by omega, ext_size s a n⟩
/-- what the program bears for a sign -/
def isSign (k : Int) (b : UInt8) (t : ByteArray) : Gb.Sg → Prop
  | none => k = 1
  | some none => k = 2
  | some (some (.inl c)) => k = 0 ∧ b = c
  | some (some (.inr l)) => k = 3 ∧ t.data.toList = l
namespace Gb
theorem rs_star {s : ByteArray} {a : Nat} (h : a < s.size) (hb : (s[a].toNat : Int) = 42) : rs (D s a) = (.star, D s (a + 1)) := by
  rw [D_cons s a h, byte_is (b := 42) hb]; rfl
theorem rs_any {s : ByteArray} {a : Nat} (h : a < s.size) (hb : (s[a].toNat : Int) = 63) : rs (D s a) = (.any, D s (a + 1)) := by
  rw [D_cons s a h, byte_is (b := 63) hb]; rfl
theorem rs_set {s : ByteArray} {a n : Nat} {t : List UInt8} (h : a < s.size) (hb : (s[a].toNat : Int) = 91) (hc : setCut (D s (a + 1)) = (t, D s n)) : rs (D s a) = (.set t, D s n) := by
  rw [D_cons s a h, byte_is (b := 91) hb]
  simp only [rs]
  rw [hc]
  rfl
theorem rs_byte {s : ByteArray} {a n : Nat} {b : UInt8} (h : a < s.size) (h1 : ¬ (s[a].toNat : Int) = 42) (h2 : ¬ (s[a].toNat : Int) = 63) (h3 : ¬ (s[a].toNat : Int) = 91) (hr : rb (D s a) = (b, D s n)) : rs (D s a) = (.byte b, D s n) := by
  rw [D_cons s a h] at hr ⊢
  simp only [rs]
  rw [if_neg (byte_no (b := 42) h1), if_neg (byte_no (b := 63) h2), if_neg (byte_no (b := 91) h3), hr]
end Gb
/-- what readSign answers: the sign at the place, and the place behind it -/
def signAt (s : ByteArray) (a : Nat) (k : Int) (b : UInt8) (t : ByteArray) (n : Nat) : Prop :=
  ∃ g, Gb.rs (Gb.D s a) = (g, Gb.D s n) ∧ isSign k b t g ∧ a < n ∧ n ≤ s.size ∧ t.size ≤ s.size
set_option maxHeartbeats 1000000 in
theorem readSign_any (s : ByteArray) (a : Nat) (w : World) (hs : s.size ≤ 1099511627776) (ha : a < s.size) :
    Calls Try.prog 9 #[.string s, .int .i64 a] w fun e w' => ∃ (k : Int) (b : UInt8) (t : ByteArray) (n : Nat), e = .returned (.tuple #[signV k b.toNat t, .int .i64 n]) ∧ Below w.heap.size w w' ∧ Kept (signAt s a k b t n) := by
  by_cases c1 : (s[a].toNat : Int) = 42
  · have st := keep (Gb.rs_star ha c1)
    go_enter Try.func9, Try.ntmps9
    go_wp2
    go_returns
    exact ⟨1, 0, { data := #[] }, a + 1, ret_si (by omega), by go_grown, _, st.out, rfl, by omega, by omega, Nat.zero_le _⟩
  · by_cases c2 : (s[a].toNat : Int) = 63
    · have st := keep (Gb.rs_any ha c2)
      go_enter Try.func9, Try.ntmps9
      go_wp2
      go_returns
      exact ⟨2, 0, { data := #[] }, a + 1, ret_si (by omega), by go_grown, _, st.out, rfl, by omega, by omega, Nat.zero_le _⟩
    · by_cases c3 : (s[a].toNat : Int) = 91
      · go_enter Try.func9, Try.ntmps9
        go_wp2_with fail
        refine (readSet_any s (a + 1) _ hs (by omega)).mono ?_
        rintro e w' ⟨t, n, rfl, rfl, hc, h1, h2, h3⟩
        have st := keep (Gb.rs_set ha c3 hc)
        clear hc
        unfold signV
        go_wp2
        go_returns
        exact ⟨3, 0, t, n, ret_si (by omega), by go_grown, _, st.out, ⟨rfl, rfl⟩, by omega, by omega, h3⟩
      · go_enter Try.func9, Try.ntmps9
        go_wp2_with fail
        refine (readByte_any s a _ hs ha).mono ?_
        rintro e w' ⟨b, n, rfl, hw, hb, h1, h2⟩; obtain rfl := hw.symm
        have st := keep (Gb.rs_byte ha c1 c2 c3 hb)
        clear hb
        go_wp2
        go_returns
        exact ⟨0, b, { data := #[] }, n, ret_si (by omega), by go_grown, _, st.out, ⟨rfl, rfl⟩, by omega, by omega, Nat.zero_le _⟩
set_option maxHeartbeats 1000000 in
theorem means_any (k : Int) (b : UInt8) (t : ByteArray) (g : Gb.Sg) (x : UInt8) (w : World) (ht : t.size ≤ 1099511627776) (hg : isSign k b t g) :
    Calls Try.prog 10 #[signV k b.toNat t, .int .u8 x.toNat] w fun e w' => e = .returned (.bool (g.means x)) ∧ w' = w.alloc (Obj.cells #[.int .i64 k, .int .u8 b.toNat, .string t] 27) := by
  have hx := x.toNat_lt
  have hb := b.toNat_lt
  unfold signV
  rcases g with _ | _ | c | l
  · obtain rfl : k = 1 := hg
    go_enter Try.func10, Try.ntmps10
    go_wp2
    go_ret
    exact ⟨rfl, rfl⟩
  · obtain rfl : k = 2 := hg
    go_enter Try.func10, Try.ntmps10
    go_wp2
    go_ret
    exact ⟨rfl, rfl⟩
  · obtain ⟨rfl, rfl⟩ := hg
    have e : Gb.Sg.means (.byte b) x = ((x.toNat : Int) == (b.toNat : Int)) := by
      simp only [Gb.Sg.means]
      by_cases h : x = b
      · subst h; simp
      · rw [beq_eq_false_iff_ne.2 h, eq_comm, beq_eq_false_iff_ne]
        intro e; apply h; exact Gb.byte_is e
    rw [e]
    go_enter Try.func10, Try.ntmps10
    go_wp2
    go_ret
    exact ⟨rfl, rfl⟩
  · obtain ⟨rfl, rfl⟩ := hg
    go_enter Try.func10, Try.ntmps10
    go_wp2_with fail
    refine (setMeans_any t x _ ht).mono ?_
    rintro e w' ⟨rfl, rfl⟩
    go_wp2
    go_ret
    exact ⟨rfl, rfl⟩
end Go.Proofs.Ytmlpfijabdkbjaa
