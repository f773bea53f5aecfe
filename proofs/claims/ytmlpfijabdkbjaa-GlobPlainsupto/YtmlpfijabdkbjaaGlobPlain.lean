/-
  Contracts over this program: what glob.Plain answers at any pattern.
-/
import Derived.Test.YtmlpfijabdkbjaaGlobMatch
namespace Go.Proofs.Ytmlpfijabdkbjaa
open Go.RowKit
namespace Gb
/-- the one text that signs mean, if each is a byte -/
def plainOf : List Sg → Option (List UInt8)
  | [] => some []
  | some (some (.inl b)) :: r => (plainOf r).map (b :: ·)
  | _ :: _ => none
def pok (p : ByteArray) : Bool := (plainOf (sgs (D p 0))).isSome
def ptext (p : ByteArray) : ByteArray := ⟨((plainOf (sgs (D p 0))).getD []).toArray⟩
/-- so far each sign was a byte, and these were they -/
def soFar (p : ByteArray) (l : List UInt8) (i : Nat) : Prop := plainOf (sgs (D p 0)) = (plainOf (sgs (D p i))).map (l ++ ·)
theorem soFar_zero (p : ByteArray) : soFar p [] 0 := by
  unfold soFar
  cases plainOf (sgs (D p 0)) <;> rfl
theorem soFar_more {p : ByteArray} {l : List UInt8} {i n : Nat} {b : UInt8} (h : soFar p l i) (hi : i < p.size) (hr : rs (D p i) = (.byte b, D p n)) : soFar p (l ++ [b]) n := by
  unfold soFar at *
  rw [h, sgs_at hi hr]
  simp only [plainOf]
  cases plainOf (sgs (D p n)) <;> simp
theorem soFar_no {p : ByteArray} {l : List UInt8} {i n : Nat} {g : Sg} (h : soFar p l i) (hi : i < p.size) (hr : rs (D p i) = (g, D p n)) (hg : ∀ b, g ≠ .byte b) : pok p = false ∧ ptext p = ⟨#[]⟩ := by
  unfold soFar at h
  have e : plainOf (sgs (D p 0)) = none := by
    rw [h, sgs_at hi hr]
    rcases g with _ | _ | b | l
    · rfl
    · rfl
    · exact absurd rfl (hg b)
    · rfl
  unfold pok ptext
  rw [e]; exact ⟨rfl, rfl⟩
theorem soFar_end {p : ByteArray} {l : List UInt8} {i : Nat} (h : soFar p l i) (hi : p.size ≤ i) : pok p = true ∧ ptext p = ⟨l.toArray⟩ := by
  unfold soFar at h
  rw [D_nil p i hi, sgs_nil] at h
  unfold pok ptext
  rw [h]; simp [plainOf]
end Gb
/-- a byte as a cell bears it -/
def encB (b : UInt8) : Value := .int .u8 b.toNat
theorem own_below {w w' : World} {base : Nat} {e : TypeId} {size : Nat} {v : Value} {n : Nat} {xs : List Value} (h : w.ownsRow base e size v n xs) (hb : Below w.heap.size w w') : w'.ownsRow base e size v n xs := by
  obtain ⟨h1, h2⟩ := h
  refine ⟨h1, ?_⟩
  rcases h2 with h2 | ⟨g, cap, cur, h3, h4, h5, h6⟩
  · exact .inl h2
  · refine .inr ⟨g, cap, cur, h3, h4, ?_, h6⟩
    rw [hb.block g ?_, h5]
    apply Decidable.byContradiction
    intro hn
    rw [Array.getElem?_eq_none (by omega)] at h5
    cases h5
theorem row_text {w : World} {base g cap : Nat} {l : List UInt8} (h : w.ownsRow base 5 1 (.slice (some ⟨g, 0, none⟩) l.length cap) l.length (l.map encB)) :
    (convert 37 9 (.slice (some ⟨g, 0, none⟩) l.length cap)).run Try.prog w = .ok (.string ⟨l.toArray⟩) w := by
  refine run_convert_bytes_back w _ _ 5 _ cap l Try.underlying37 Try.underlying5 Try.underlying9 ?_
  intro j hj
  refine h.cells rfl j _ ?_
  rw [List.getElem?_map, List.getElem?_eq_getElem hj]; rfl
theorem info_u8 : ∃ i, Try.prog.info? 5 = some i ∧ i.zero = some (.int .u8 0) ∧ i.size = 1 ∧ i.bytes = 1 := by
  have h : (Try.prog.info? 5).map (fun i => (i.zero, i.size, i.bytes)) = some (some (.int .u8 0), 1, 1) := by kernel_rfl
  obtain ⟨i0, hi, hx⟩ := Option.map_eq_some_iff.1 h
  simp only [Prod.mk.injEq] at hx
  exact ⟨i0, hi, hx.1, hx.2.1, hx.2.2⟩
theorem ret_sb {a b : ByteArray} {x y : Bool} (h : a = b) (g : x = y) : Ending.returned (.tuple #[.string a, .bool x]) = .returned (.tuple #[.string b, .bool y]) := by rw [h, g]
theorem not_byte {k : Int} {b : UInt8} {t : ByteArray} {g : Gb.Sg} (h : isSign k b t g) (hk : ¬ k = 0) : ∀ c, g ≠ .byte c := by
  intro c e
  subst e
  exact hk h.1
theorem is_byte {b : UInt8} {t : ByteArray} {g : Gb.Sg} (h : isSign 0 b t g) : g = .byte b := by
  rcases g with _ | _ | c | l
  · exact absurd (show (0 : Int) = 1 from h) (by decide)
  · exact absurd (show (0 : Int) = 2 from h) (by decide)
  · rw [show b = c from h.2]
  · exact absurd (show (0 : Int) = 3 from h.1) (by decide)
theorem map_snoc (l : List UInt8) (b : UInt8) : (l ++ [b]).map encB = l.map encB ++ [.int .u8 b.toNat] := by simp [encB]
set_option maxHeartbeats 4000000 in
set_option maxRecDepth 100000 in
theorem plain_any (p : ByteArray) (w : World) (hp : p.size ≤ 1099511627776) :
    Calls Try.prog 7 #[.string p] w fun e w' => e = .returned (.tuple #[.string (Gb.ptext p), .bool (Gb.pok p)]) ∧ Below w.heap.size w w' := by
  obtain ⟨i0, hi, hz0, hz1, hz2⟩ := info_u8
  obtain ⟨w1, hmk, hown0, hg0⟩ := run_make_own (P := Try.prog) (w := w) w.heap.size 37 5 i0 (.int .u8 0) 1 Try.underlying37 hi hz0 hz1 .i64 .i64 p.size (by rw [hz2]; omega) (by unfold maxLen; omega) (Nat.le_refl _)
  have hb0 : Below w.heap.size w w1 := (Below.refl _ _).grown hg0 (Nat.le_refl _) (by simp)
  go_enter Try.func7, Try.ntmps7
  go_wp2
  clear hmk
  go_loopg [4, 5] p.size (fun gg v4 v5 wx => ∃ (i : Nat) (l : List UInt8), i + gg = p.size ∧ l.length ≤ i ∧ v5 = .int .i64 i ∧ v4 = .slice (some ⟨w.heap.size, 0, none⟩) l.length p.size ∧ wx.ownsRow w.heap.size 5 1 (.slice (some ⟨w.heap.size, 0, none⟩) l.length p.size) l.length (l.map encB) ∧ Aside (Gb.soFar p l i) ∧ Below w.heap.size w wx)
  case atStart => exact ⟨0, [], by omega, by simp, rfl, rfl, hown0, Gb.soFar_zero p, hb0⟩
  case round =>
    obtain ⟨i, l, hig, hli, rfl, rfl, hown, HS, hbw⟩ := hrel
    have hown := keep hown
    by_cases hip : i < p.size
    · go_wp2_with fail
      refine (readSign_any p i _ hp hip).mono ?_
      rintro e w2 ⟨kd, b, t, n, rfl, hg1, hsg⟩
      obtain ⟨g, hr, hsn, hn1, hn2, ht⟩ := hsg.out
      have hr := keep hr
      have hsn := keep hsn
      have hgg : Below w.heap.size w w2 := bel_trans hbw hg1
      have hsz := hgg.size
      have hown2 := keep (own_below hown.out hg1)
      clear hsg hg1
      have hbl := b.toNat_lt
      by_cases hk0 : kd = 0
      · subst hk0
        obtain rfl := is_byte hsn.out
        have st2 : Aside (Gb.soFar p (l ++ [b]) n) := Gb.soFar_more HS.out hip hr.out
        clear HS
        unfold signV
        go_wp2_with (first
          | (at_builtin; refine wpList_append_fits _ rfl _ _ 37 rfl w.heap.size 5 i0 1 Try.underlying37 hi hz1 w.heap.size l.length p.size (l.map encB) rfl ((hown2.out.alloc _).alloc _) _ 1 1 [.int .u8 b.toNat] rfl rfl ?c1 ?c2 ?c3 ?c4))
        case c1 =>
          intro j u hj
          match j, hj with
          | 0, hj => simp at hj; subst hj; simp [Addr.add, go_sem]
        case c2 => intro u hu; simp at hu; subst hu; rfl
        case c3 => omega
        case c4 =>
          intro w3 hown3 hgrow3
          have hown4 := keep hown3
          have hb3 : Below w.heap.size w w3 := by
            refine Below.grown ?_ hgrow3 (by simp; omega) (fun k hk => by cases hk; exact Nat.le_refl _)
            go_grown
          clear hown3 hgrow3
          go_wp2
          go_roundg (p.size - n)
          case measure => omega
          case rel => exact ⟨n, l ++ [b], by omega, by simp; omega, rfl, by simp, by rw [map_snoc, List.length_append]; exact hown4.out, st2, hb3⟩
      · have an := keep (Gb.soFar_no HS.out hip hr.out (not_byte hsn.out hk0))
        unfold signV
        go_wp2
        go_ret2
        exact ⟨ret_sb an.out.2.symm an.out.1.symm, by go_grown⟩
    · have an := keep (Gb.soFar_end HS.out (by omega))
      have rt := row_text hown.out
      go_wp2
      go_ret2
      exact ⟨ret_sb an.out.2.symm an.out.1.symm, hbw⟩
end Go.Proofs.Ytmlpfijabdkbjaa
