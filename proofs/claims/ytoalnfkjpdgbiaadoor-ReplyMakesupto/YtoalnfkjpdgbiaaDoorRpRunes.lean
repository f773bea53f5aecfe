/-
  What a text tells rune by rune: a byte of ASCII, or bytes above it alone; and strings.IndexRune of CR LF at each.
-/
import Derived.Test.YtoalnfkjpdgbiaaDoorRpRow
import Derived.Test.YtoalnfkjpdgbiaaDoorShelf
import Derived.Lib.Small
import Derived.Lib.DecodeNEq
import Derived.Laws.RangeAny
import Derived.Deep.RegionHeld3
import Derived.Deep.QuietTactic
import Derived.BigQuiet
import Derived.Lib.OthersKept
import Derived.Deep.LoopGhost
import Derived.Laws.IdiomStrings
/-
  Contracts over this program: strings.IndexRune of CR LF at every rune that a text may tell.
-/
namespace Go.Proofs.YtoalnfkjpdgbiaaDoor
open Go.RowKit
set_option linter.unusedVariables false
theorem below_drewN (w : World) (n : Nat) : Below w.heap.size w (w.drewN n) := by
  refine ⟨?_, ?_, ?_, ?_, fun k _ => ?_⟩
  all_goals first | rfl | (simp; done)
theorem valid_same (r : Int) (h : Lib.validRune r = true) : Utf8.valid r = true := by
  unfold Lib.validRune at h
  unfold Utf8.valid
  have := of_decide_eq_true h
  simp
  omega
theorem enc_two (r : Int) (h0 : 128 ≤ r) (h1 : r ≤ 2047) : ∃ x y : UInt8, Utf8.encode r = ⟨#[x, y]⟩ ∧ 128 ≤ y.toNat := by
  have hv : Utf8.valid r = true := valid_same r (by unfold Lib.validRune; exact decide_eq_true (by omega))
  unfold Utf8.encode
  simp only [hv, if_true]
  rw [if_neg (by omega), if_pos (by omega)]
  refine ⟨_, _, rfl, ?_⟩
  rw [UInt8.toNat_ofNat']
  omega
theorem enc_far (r : Int) (h0 : 2048 ≤ r) (h : Lib.validRune r = true) : (Utf8.encode r).size = 3 ∨ (Utf8.encode r).size = 4 := by
  have hv : Utf8.valid r = true := valid_same r h
  unfold Utf8.encode
  simp only [hv, if_true]
  rw [if_neg (by omega), if_neg (by omega)]
  by_cases c : r.toNat < 65536
  · rw [if_pos c]; exact .inl rfl
  · rw [if_neg c]; exact .inr rfl
theorem enc_size (r d : Nat) (hv : Lib.validRune (r : Nat) = true) (h : d = 2 ∧ r ≤ 2047 ∨ d = 3 ∧ 2048 ≤ r ∧ r ≤ 65535 ∨ d = 4 ∧ 65536 ≤ r) (h0 : 128 ≤ r) : (Utf8.encode r).size = d := by
  have hv' : Utf8.valid r = true := valid_same r hv
  unfold Utf8.encode
  simp only [hv', if_true]
  rw [if_neg (by omega)]
  rcases h with ⟨rfl, h⟩ | ⟨rfl, h1, h2⟩ | ⟨rfl, h⟩
  · rw [if_pos (by omega)]; rfl
  · rw [if_neg (by omega), if_pos (by omega)]; rfl
  · rw [if_neg (by omega), if_neg (by omega)]; rfl
set_option maxRecDepth 100000 in
set_option maxHeartbeats 2000000 in
theorem irune_far (r : Int) (h0 : 2048 ≤ r) (hv : Lib.validRune r = true) (hn : r ≠ 65533) (w : World) :
    Calls Tryd.prog 104 #[.string ⟨#[13, 10]⟩, .int .i32 r] w fun e w' => e = .returned (.int .i64 (-1)) ∧ Below w.heap.size w w' := by
  have d0 : decide ((0 : Int) ≤ r) = true := decide_eq_true (by omega)
  have d1 : decide (r < (128 : Int)) = false := decide_eq_false (by omega)
  have d2 : (r == 65533) = false := beq_eq_false_iff_ne.2 hn
  obtain ⟨E, hE⟩ : ∃ E, Utf8.encode r = E := ⟨_, rfl⟩
  have hsz := enc_far r h0 hv
  rw [hE] at hsz
  have HV := keep hv
  clear h0 hv hn
  rcases hsz with hsz | hsz
  · have hsz' : (E.size : Int) = 3 := by omega
    clear hsz
    go_enter Tryd.func104, Tryd.ntmps104
    go_wp2_with fail
    refine (Tryd.utf8_ValidRune r _).mono ?_
    rintro e w' ⟨rfl, rfl⟩
    rw [HV.out]
    go_wp2
    go_step3
    go_wp2
    go_loop [9] (fun i => i = .int .i64 2) (fun _ => 0)
    case atStart => rfl
    case round =>
      subst hrel
      go_wp2
      go_ret
      exact ⟨rfl, Below.refl _ _⟩
  · have hsz' : (E.size : Int) = 4 := by omega
    clear hsz
    go_enter Tryd.func104, Tryd.ntmps104
    go_wp2_with fail
    refine (Tryd.utf8_ValidRune r _).mono ?_
    rintro e w' ⟨rfl, rfl⟩
    rw [HV.out]
    go_wp2
    go_step3
    go_wp2
    go_loop [9] (fun i => i = .int .i64 3) (fun _ => 0)
    case atStart => rfl
    case round =>
      subst hrel
      go_wp2
      go_ret
      exact ⟨rfl, Below.refl _ _⟩
set_option maxRecDepth 100000 in
set_option maxHeartbeats 2000000 in
theorem irune_two (r : Int) (h0 : 128 ≤ r) (h1 : r ≤ 2047) (w : World) :
    Calls Tryd.prog 104 #[.string ⟨#[13, 10]⟩, .int .i32 r] w fun e w' => e = .returned (.int .i64 (-1)) ∧ Below w.heap.size w w' := by
  have d0 : decide ((0 : Int) ≤ r) = true := decide_eq_true (by omega)
  have d1 : decide (r < (128 : Int)) = false := decide_eq_false (by omega)
  have d2 : (r == 65533) = false := beq_eq_false_iff_ne.2 (by omega)
  have HV := keep (show Lib.validRune r = true by unfold Lib.validRune; exact decide_eq_true (by omega))
  obtain ⟨x, y, hE, hy⟩ := enc_two r h0 h1
  obtain ⟨E, hE'⟩ : ∃ E : ByteArray, E = ⟨#[x, y]⟩ := ⟨_, rfl⟩
  rw [← hE'] at hE
  have hsz : (E.size : Int) = 2 := by rw [hE']; rfl
  have ix : ∀ (w : World) (i : Int), i = 1 → (Instr.index 9 (.string E) (.int .i64 i)).run Tryd.prog w = .ok (.int .u8 (y.toNat : Int)) w := fun w i hi => by subst hi; rw [hE']; rfl
  have n1 : ((((⟨#[13, 10]⟩ : ByteArray)[1]'(by decide)).toNat : Int) != (y.toNat : Int)) = true := by
    show ((10 : Int) != (y.toNat : Int)) = true
    simp; omega
  have sl : ∀ (w : World), (Instr.slice 9 (.string ⟨#[13, 10]⟩) (some (.int .i64 2)) none none).run Tryd.prog w = .ok (.string .empty) w := fun w => by rfl
  have hw2 : IntKind.i64.wrap 2 = 2 := by decide
  have ib : Lib.indexByte (ByteArray.empty).data.toList ((y.toNat : Int).toNat.toUInt8) = -1 := by rfl
  clear h0 h1 hy hE'
  go_enter Tryd.func104, Tryd.ntmps104
  go_wp2_with fail
  refine (Tryd.utf8_ValidRune r _).mono ?_
  rintro e w' ⟨rfl, rfl⟩
  rw [HV.out]
  go_wp2
  go_step3
  go_wp2
  go_loop [9] (fun i => i = .int .i64 1) (fun _ => 0)
  case atStart => rfl
  case round =>
    subst hrel
    go_wp2
    go_step3
    go_wp2
    go_quiet (fail)
    have hB := keep (below_drewN w' nq)
    obtain ⟨W3, hW3⟩ : ∃ x, x = w'.drewN nq := ⟨_, rfl⟩
    rw [← hW3] at hB ⊢
    clear hW3
    go_wp2
    go_quiet ((go_at_call 68; exact Calls.quiet_of_same (Tryd.strings_IndexByte _ _ _)))
    rw [ib]
    go_wp2
    simp +zetaDelta only [Exit.noGoto_ret, Exit.inBlock, Exit.then, go_sem]
    go_ret
    exact ⟨rfl, hB.out.trans ((below_drewN W3 nq).mono hB.out.size)⟩
end Go.Proofs.YtoalnfkjpdgbiaaDoor

namespace Go.Proofs.YtoalnfkjpdgbiaaDoor
open Go.RowKit
set_option linter.unusedVariables false
theorem decN_wide (n b0 b1 b2 b3 : Nat) (h0 : 128 ≤ b0) : Lib.decodeN n b0 b1 b2 b3 = (65533, 1) ∨
    ∃ r d, Lib.decodeN n b0 b1 b2 b3 = (r, d) ∧ Lib.validRune (r : Nat) = true ∧ 128 ≤ r ∧ (d = 2 ∧ r ≤ 2047 ∧ 1 < n ∧ 128 ≤ b1 ∨ d = 3 ∧ 2048 ≤ r ∧ r ≤ 65535 ∧ 2 < n ∧ 128 ≤ b1 ∧ 128 ≤ b2 ∨ d = 4 ∧ 65536 ≤ r ∧ 3 < n ∧ 128 ≤ b1 ∧ 128 ≤ b2 ∧ 128 ≤ b3) := by
  unfold Lib.decodeN
  rw [if_neg (by omega)]
  split
  · rename_i h
    split
    · refine .inr ⟨_, _, rfl, ?_, by omega, .inl ⟨rfl, by omega, by omega, by omega⟩⟩
      unfold Lib.validRune; exact decide_eq_true (by omega)
    · exact .inl rfl
  split
  · rename_i h
    split
    · refine .inr ⟨_, _, rfl, ?_, by omega, .inr (.inl ⟨rfl, by omega, by omega, by omega, by omega, by omega⟩)⟩
      unfold Lib.validRune; exact decide_eq_true (by omega)
    · exact .inl rfl
  split
  · rename_i h
    split
    · refine .inr ⟨_, _, rfl, ?_, by omega, .inr (.inr ⟨rfl, by omega, by omega, by omega, by omega, by omega⟩)⟩
      unfold Lib.validRune; exact decide_eq_true (by omega)
    · exact .inl rfl
  · exact .inl rfl
theorem get_bang (s : ByteArray) (i : Nat) (h : i < s.size) : s.get! i = s[i]'h := by
  show s.data[i]! = _
  rw [getElem!_pos s.data i h]; rfl
/-- a text at a place: a byte of ASCII alone, or so many bytes above it -/
theorem dec_at (s : ByteArray) (i : Nat) (h : i < s.size) : ((s[i]'h).toNat < 128 ∧ Utf8.decode s i = ((s[i]'h).toNat, 1)) ∨
    (128 ≤ (s[i]'h).toNat ∧ ∃ r d, Utf8.decode s i = (r, d) ∧ 1 ≤ d ∧ i + d ≤ s.size ∧ (∀ j (hj : j < s.size), i ≤ j → j < i + d → 128 ≤ (s[j]'hj).toNat) ∧ (r = 65533 ∨ (Lib.validRune (r : Nat) = true ∧ 128 ≤ r)) ∧ (r ≠ 65533 → (d = 2 ∧ r ≤ 2047 ∨ d = 3 ∧ 2048 ≤ r ∧ r ≤ 65535 ∨ d = 4 ∧ 65536 ≤ r))) := by
  by_cases c : (s[i]'h).toNat < 128
  · exact .inl ⟨c, decode_ascii s i h c⟩
  · refine .inr ⟨by omega, ?_⟩
    rw [Lib.decode_at, get_bang s i h]
    rcases decN_wide (s.size - i) (s[i]'h).toNat (s.get! (i + 1)).toNat (s.get! (i + 2)).toNat (s.get! (i + 3)).toNat (by omega) with e | ⟨r, d, e, hv, hr, hd⟩
    · exact ⟨65533, 1, e, Nat.le_refl _, by omega, fun j hj h1 h2 => by obtain rfl : j = i := by omega
                                                                        omega, .inl rfl, fun h => absurd rfl h⟩
    · refine ⟨r, d, e, by omega, by omega, fun j hj h1 h2 => ?_, .inr ⟨hv, hr⟩, fun _ => by omega⟩
      by_cases e0 : j = i
      · subst e0; omega
      by_cases e1 : j = i + 1
      · subst e1; rw [get_bang s _ hj] at hd; omega
      by_cases e2 : j = i + 2
      · subst e2; rw [get_bang s (i + 2) hj] at hd; omega
      by_cases e3 : j = i + 3
      · subst e3; rw [get_bang s (i + 3) hj] at hd; omega
      omega
theorem a0 (h : 0 < (⟨#[13, 10]⟩ : ByteArray).size) : ((⟨#[13, 10]⟩ : ByteArray)[0]'h).toNat < 128 := by decide +revert
theorem a1 (h : 1 < (⟨#[13, 10]⟩ : ByteArray).size) : ((⟨#[13, 10]⟩ : ByteArray)[1]'h).toNat < 128 := by decide +revert
theorem z0 (h : 0 < (⟨#[13, 10]⟩ : ByteArray).size) : ((((⟨#[13, 10]⟩ : ByteArray)[0]'h).toNat : Int) == 65533) = false := by decide +revert
theorem z1 (h : 1 < (⟨#[13, 10]⟩ : ByteArray).size) : ((((⟨#[13, 10]⟩ : ByteArray)[1]'h).toNat : Int) == 65533) = false := by decide +revert
set_option maxRecDepth 100000 in
set_option maxHeartbeats 4000000 in
/-- the rune that stands for an error is neither CR nor LF -/
theorem irune_err (w : World) :
    Calls Tryd.prog 104 #[.string ⟨#[13, 10]⟩, .int .i32 65533] w fun e w' => e = .returned (.int .i64 (-1)) ∧ Below w.heap.size w w' := by
  go_enter Tryd.func104, Tryd.ntmps104
  go_wp2
  go_loopg [5, 6] 2 (fun g _ _ wx => ∃ i : Nat, i + g = 2 ∧ wx = w.iter ⟨#[13, 10]⟩ i)
  case atStart => exact ⟨0, by omega, rfl⟩
  case round =>
    obtain ⟨i, hig, rfl⟩ := hrel
    cases gk with
    | zero =>
      obtain rfl : i = 2 := by omega
      have hnx := run_next_end (P := Tryd.prog) w ⟨#[13, 10]⟩ 2
      have hnx' : ∀ ty, (Instr.next (.pointer (some ⟨w.heap.size, 0, none⟩)) true ty).run Tryd.prog (w.iter ⟨#[13, 10]⟩ 2) = .ok (.tuple #[.bool false]) (w.iter ⟨#[13, 10]⟩ 2) := fun ty => hnx ty (by decide)
      clear hnx
      go_wp2
      go_ret
      exact ⟨rfl, (Below.refl _ _).alloc (Nat.le_refl _) _⟩
    | succ g =>
      have hi : i < (⟨#[13, 10]⟩ : ByteArray).size := by show i < 2; omega
      rcases (show i = 0 ∨ i = 1 by omega) with rfl | rfl
      · have hnx := fun ty => run_next_ascii (P := Tryd.prog) w ⟨#[13, 10]⟩ 0 ty hi (by first | exact a0 _ | exact a1 _)
        have e1 : ((((⟨#[13, 10]⟩ : ByteArray)[0]'hi).toNat : Int) == 65533) = false := by first | exact z0 _ | exact z1 _
        go_wp2
        go_roundg g
        case measure => omega
        case rel => exact ⟨1, by omega, rfl⟩
      · have hnx := fun ty => run_next_ascii (P := Tryd.prog) w ⟨#[13, 10]⟩ 1 ty hi (by first | exact a0 _ | exact a1 _)
        have e1 : ((((⟨#[13, 10]⟩ : ByteArray)[1]'hi).toNat : Int) == 65533) = false := by first | exact z0 _ | exact z1 _
        go_wp2
        go_roundg g
        case measure => omega
        case rel => exact ⟨2, by omega, rfl⟩
/-- IndexRune of CR LF at a rune above ASCII -/
theorem irune_wide (r : Nat) (h : r = 65533 ∨ (Lib.validRune (r : Nat) = true ∧ 128 ≤ r)) (w : World) :
    Calls Tryd.prog 104 #[.string ⟨#[13, 10]⟩, .int .i32 r] w fun e w' => e = .returned (.int .i64 (-1)) ∧ Below w.heap.size w w' := by
  by_cases e : r = 65533
  · subst e; exact irune_err w
  · obtain ⟨hv, hr⟩ := h.resolve_left e
    by_cases c : r ≤ 2047
    · exact irune_two r (by omega) (by omega) w
    · exact irune_far r (by omega) hv (by omega) w
theorem iterAt_below (w : World) (k : Nat) (s : ByteArray) (pos : Nat) {B : Nat} (hk : B ≤ k) : Below B w (w.iterAt k s pos) :=
  ⟨rfl, rfl, rfl, by simp [World.iterAt], fun j hj => by simp only [World.iterAt]; rw [Array.getElem?_setIfInBounds_ne (by omega)]⟩
theorem noAny_wide {s : ByteArray} {i d : Nat} (h : Lib.NoAny s.data.toList [13, 10] i) (hw : ∀ j (hj : j < s.size), i ≤ j → j < i + d → 128 ≤ (s[j]'hj).toNat) : Lib.NoAny s.data.toList [13, 10] (i + d) := by
  intro j b hj hb
  by_cases c : j < i
  · exact h j b c hb
  · have hjs : j < s.size := by
      have := (List.getElem?_eq_some_iff.1 hb).1
      rwa [Array.length_toList] at this
    have h1 := hw j hjs (by omega) hj
    have h2 : s[j]'hjs = b := by
      have := (List.getElem?_eq_some_iff.1 hb).2
      rw [← this]; simp [ByteArray.getElem_eq_getElem_data]
    rw [h2] at h1
    cases hq : ([13, 10] : List UInt8).contains b with
    | false => rfl
    | true =>
      exfalso
      simp at hq
      rcases hq with rfl | rfl <;> (revert h1; decide)
set_option maxRecDepth 100000 in
set_option maxHeartbeats 4000000 in
/-- strings.IndexAny of CR LF in a text of at most eight bytes -/
theorem sidx_short (s : ByteArray) (w : World) (h8 : s.size ≤ 8) :
    Calls Tryd.prog 81 #[.string s, .string ⟨#[13, 10]⟩] w fun e w' => e = .returned (.int .i64 (Lib.indexAny s.data.toList [13, 10])) ∧ Below w.heap.size w w' := by
  have h8z : decide ((8 : Int) < (s.size : Int)) = false := decide_eq_false (by omega)
  obtain ⟨k, hk⟩ : ∃ k, k = w.heap.size := ⟨_, rfl⟩
  have HK := keep hk
  have hlen : s.data.toList.length = s.size := Array.length_toList
  have HLEN := keep hlen
  clear hlen
  go_enter Tryd.func81, Tryd.ntmps81
  go_wp2_with (go_at_call 105; refine (Tryd.strings_shouldUseASCIISet _ _).mono ?_; rintro e w' ⟨rfl, hw⟩; rw [hw, h8z])
  go_loopg [9, 10] s.size (fun g _ _ wx => ∃ i : Nat, i ≤ s.size ∧ s.size ≤ i + g ∧ Kept (wx.heap[w.heap.size]? = some (.stringIter s i)) ∧ Kept (Below w.heap.size w wx) ∧ Kept (Lib.NoAny s.data.toList [13, 10] i))
  case atStart => exact ⟨0, Nat.zero_le _, by omega, keep (World.iter_heap _ _ _), keep ((Below.refl _ _).alloc (Nat.le_refl _) _), keep (Lib.NoAny.zero _ _)⟩
  case round =>
    obtain ⟨i, hi, hig, HI, HB, HN⟩ := hrel
    by_cases hlt : i < s.size
    · obtain ⟨g, rfl⟩ : ∃ g, gk = g + 1 := ⟨gk - 1, by omega⟩
      rcases dec_at s i hlt with ⟨ha, hd⟩ | ⟨ha, r, d, hd, h1, h2, h3, h4, _⟩
      · have hnx := fun ty => Lib.run_next_any_at (P := Tryd.prog) wr w.heap.size s i ty HI.out hlt
        rw [hd] at hnx
        have HI2 := keep (Lib.iterAt_heap wr w.heap.size s i (i + 1) HI.out)
        have HB2 := keep (HB.out.trans (iterAt_below wr w.heap.size s (i + 1) (Nat.le_refl _)))
        obtain ⟨x, hx⟩ : ∃ x : UInt8, s[i]'hlt = x := ⟨_, rfl⟩
        have hxl : s.data.toList[i]? = some x := by rw [← hx]; exact Lib.data_getElem? s i hlt
        rw [hx] at ha hnx
        have HX := keep hxl
        have hcon := Lib.contains_iff_indexByte [13, 10] x
        have hback : ((x.toNat : Int)).toNat.toUInt8 = x := by simp
        have hx0 : (0 : Int) ≤ (x.toNat : Int) := by omega
        have hx1 : (x.toNat : Int) < 128 := by omega
        generalize wr.iterAt w.heap.size s (i + 1) = W2 at hnx HI2 HB2
        clear HI HB hd hx hxl
        cases hin : ([13, 10] : List UInt8).contains x
        · rw [hin] at hcon
          have hltz : ¬ ((0 : Int) ≤ Lib.indexByte [13, 10] x) := of_decide_eq_false hcon.symm
          have HIN := keep hin
          clear hcon hin ha
          go_wp2_with (go_at_call 104; refine (Tryd.strings_IndexRune_ascii _ _ _ hx0 hx1).mono ?_; rintro e w' ⟨rfl, hw⟩; rw [hw, hback])
          go_roundg g
          case measure => omega
          case rel => exact ⟨i + 1, by omega, by omega, HI2, HB2, keep (HN.out.succ HX.out HIN.out)⟩
        · rw [hin] at hcon
          have hge : (0 : Int) ≤ Lib.indexByte [13, 10] x := of_decide_eq_true hcon.symm
          have HIN := keep hin
          clear hcon hin ha
          go_wp2_with (go_at_call 104; refine (Tryd.strings_IndexRune_ascii _ _ _ hx0 hx1).mono ?_; rintro e w' ⟨rfl, hw⟩; rw [hw, hback])
          go_ret
          exact ⟨by rw [Lib.indexAny_hit HN.out HX.out HIN.out]; rfl, HB2.out⟩
      · have hnx := fun ty => Lib.run_next_any_at (P := Tryd.prog) wr w.heap.size s i ty HI.out hlt
        rw [hd] at hnx
        have HI2 := keep (Lib.iterAt_heap wr w.heap.size s i (i + d) HI.out)
        have HB2 := keep (HB.out.trans (iterAt_below wr w.heap.size s (i + d) (Nat.le_refl _)))
        have HN2 := keep (noAny_wide HN.out h3)
        have CR := keep (fun w => irune_wide r h4 w)
        generalize wr.iterAt w.heap.size s (i + d) = W2 at hnx HI2 HB2
        clear HI HB hd h3 h4 ha HN
        go_wp2_with fail
        refine (CR.out _).mono ?_
        rintro e w3 ⟨rfl, b3⟩
        have HI3 : Kept (w3.heap[w.heap.size]? = some (.stringIter s (i + d))) := keep ((b3.block _ (Array.getElem?_eq_some_iff.1 HI2.out).1).trans HI2.out)
        have HB3 := keep (HB2.out.trans (b3.mono HB2.out.size))
        clear b3 HI2 HB2
        go_wp2
        go_roundg g
        case measure => omega
        case rel => exact ⟨i + d, by omega, by omega, HI3, HB3, HN2⟩
    · obtain rfl : i = s.size := by omega
      have hnx := fun ty => Lib.run_next_end_at (P := Tryd.prog) wr w.heap.size s s.size ty HI.out hlt
      clear hlt
      go_wp2
      go_ret
      exact ⟨by rw [Lib.indexAny_none (by rw [HLEN.out]; exact HN.out)]; rfl, HB.out⟩
end Go.Proofs.YtoalnfkjpdgbiaaDoor
