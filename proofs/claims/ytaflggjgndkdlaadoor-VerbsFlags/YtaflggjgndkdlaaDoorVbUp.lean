/-
  Contracts over this program: verbs.Upper at every text.
-/
import Derived.Test.YtaflggjgndkdlaaDoorVbTab
import Derived.Laws.IdiomCopy
import Derived.Laws.IdiomStrings
namespace Go.Proofs.YtaflggjgndkdlaaDoor
open Go.RowKit
set_option linter.unusedVariables false
def Br (w : World) (b : Nat) (l : List UInt8) : Prop := b < w.heap.size ∧ ∀ j (h : j < l.length), w.cell? ⟨b, j, none⟩ = some (.int .u8 (l[j].toNat : Int)) ∧ w.frozen? ⟨b, j, none⟩ = false
theorem add_off (b j : Nat) : (⟨b, 0, none⟩ : Addr).add j = ⟨b, j, none⟩ := by unfold Addr.add; split <;> simp_all
theorem Br.drew {w : World} {b : Nat} {l : List UInt8} (h : Br w b l) : Br w.drew b l := h
theorem Br.set {w : World} {b : Nat} {l : List UInt8} (h : Br w b l) (k : Nat) (z : UInt8) : Br (w.setCell ⟨b, k, none⟩ (.int .u8 (z.toNat : Int))) b (l.set k z) := by
  refine ⟨by simpa [World.setCell] using h.1, fun j hj => ?_⟩
  have hj' : j < l.length := by simpa using hj
  obtain ⟨h1, h2⟩ := h.2 j hj'
  refine ⟨?_, by rw [World.frozen?_setCell]; exact h2⟩
  by_cases e : k = j
  · subst e
    rw [List.getElem_set_self]
    exact World.cell?_setCell_same _ _ _ h1
  · rw [List.getElem_set_ne e, World.cell?_setCell_other _ _ _ _ (by intro h; cases h; exact e rfl)]
    exact h1
theorem Br.back {w : World} {b : Nat} {l : List UInt8} (h : Br w b l) (cap : Nat) :
    (convert 51 9 (.slice (some ⟨b, 0, none⟩) l.length cap)).run Tryd.prog w = .ok (.string ⟨l.toArray⟩) w :=
  run_convert_bytes_back (P := Tryd.prog) w 51 9 5 ⟨b, 0, none⟩ cap l Tryd.underlying51 Tryd.underlying5 Tryd.underlying9 fun j hj => by
    rw [add_off]; exact (h.2 j hj).1
theorem Br.made (w : World) (C : Array Value) (fr : Nat × Nat) (l : List UInt8) (h : ∀ j (hj : j < l.length), C[j]? = some (.int .u8 (l[j].toNat : Int))) (hf : ∀ j, j < l.length → ¬ (fr.1 ≤ j ∧ j < fr.2)) :
    Br (w.alloc (.cells C 5 fr)) w.heap.size l := by
  refine ⟨by show _ < (w.heap.push _).size; simp, fun j hj => ⟨by rw [World.cell?_alloc_mark]; exact h j hj, ?_⟩⟩
  obtain ⟨lo, hi⟩ := fr
  rw [World.frozen?_alloc_mark]
  have := hf j hj
  simp only [Bool.and_eq_false_imp, decide_eq_true_eq, decide_eq_false_iff_not]
  omega
theorem brow_size (s : ByteArray) (cap : Nat) (h : s.size ≤ cap) : (bytesRow s cap).size = cap := by
  have : s.data.size = s.size := rfl
  simp [bytesRow]; omega
theorem brow_zero (s : ByteArray) (cap j : Nat) (h : s.size ≤ j) (hj : j < cap) : (bytesRow s cap)[j]? = some (.int .u8 0) := by
  unfold bytesRow
  have : s.data.size = s.size := rfl
  rw [Array.getElem?_append_right (by simp; omega)]
  simp [Array.getElem?_replicate]
  omega
theorem Br.text (w : World) (s : ByteArray) (cap : Nat) (hc : s.size ≤ cap) (m : Nat) (hm : s.size + m ≤ cap) :
    Br (w.alloc (.cells (bytesRow s cap) 5 ((bytesRow s cap).size, (bytesRow s cap).size + 1))) w.heap.size (s.data.toList ++ List.replicate m 0) := by
  have e : s.data.toList.length = s.size := Array.length_toList
  refine Br.made w _ _ _ (fun j hj => ?_) fun j hj => ?_
  · by_cases h : j < s.size
    · rw [bytesRow_at s cap j h, List.getElem_append_left (by omega)]
      simp
    · have h2 : j < s.size + m := by rw [List.length_append, List.length_replicate] at hj; omega
      rw [brow_zero s cap j (by omega) (by omega), List.getElem_append_right (by omega)]
      simp
  · rw [List.length_append, List.length_replicate] at hj
    rw [brow_size s cap hc]
    simp only
    omega
theorem up_of (c : UInt8) (h : (97 : Int) ≤ (c.toNat : Int)) (h2 : (c.toNat : Int) ≤ 122) : (c.toNat : Int) - 97 + 65 = ((Vb.upB c).toNat : Int) := by
  revert h h2
  have H : ∀ z : Fin 256, (97 : Int) ≤ (z.val : Int) → (z.val : Int) ≤ 122 → (z.val : Int) - 97 + 65 = ((Vb.upB (UInt8.ofNat z.val)).toNat : Int) := by decide +kernel
  intro h h2
  have := H ⟨c.toNat, c.toNat_lt⟩ h h2
  simpa using this
theorem up_not (c : UInt8) (h : ¬ ((97 : Int) ≤ (c.toNat : Int) ∧ (c.toNat : Int) ≤ 122)) : Vb.upB c = c := by
  unfold Vb.upB
  rw [if_neg (by omega)]
/-- the first j bytes turned -/
def upd (l : List UInt8) (j : Nat) : List UInt8 := (l.take j).map Vb.upB ++ l.drop j
theorem upd_len (l : List UInt8) (j : Nat) : (upd l j).length = l.length := by unfold upd; simp; omega
theorem upd_zero (l : List UInt8) : upd l 0 = l := by simp [upd]
theorem upd_all (l : List UInt8) : upd l l.length = l.map Vb.upB := by simp [upd]
theorem upd_get (l : List UInt8) (j k : Nat) (hj : j ≤ l.length) : (upd l j)[k]? = if k < j then l[k]?.map Vb.upB else l[k]? := by
  unfold upd
  rw [List.getElem?_append]
  simp only [List.length_map, List.length_take, Nat.min_eq_left hj]
  split
  · rename_i h
    rw [List.getElem?_map, List.getElem?_take_of_lt h]
  · rename_i h
    rw [List.getElem?_drop]
    congr 1
    omega
theorem upd_at (l : List UInt8) (j : Nat) (h : j < l.length) : (upd l j)[j]'(by rw [upd_len]; exact h) = l[j] := by
  have h1 := upd_get l j j (by omega)
  rw [if_neg (by omega), List.getElem?_eq_getElem (by rw [upd_len]; exact h), List.getElem?_eq_getElem h] at h1
  exact Option.some.inj h1
theorem upd_set (l : List UInt8) (j : Nat) (h : j < l.length) : (upd l j).set j (Vb.upB l[j]) = upd l (j + 1) := by
  apply List.ext_getElem?
  intro k
  rw [List.getElem?_set, upd_len, upd_get l j k (by omega), upd_get l (j + 1) k (by omega)]
  by_cases e : j = k
  · subst e
    rw [if_pos rfl, if_pos h, if_pos (by omega), List.getElem?_eq_getElem h]
    rfl
  · rw [if_neg e]
    by_cases g : k < j
    · rw [if_pos g, if_pos (by omega)]
    · rw [if_neg g, if_neg (by omega)]
set_option maxRecDepth 100000 in
set_option maxHeartbeats 1000000 in
theorem upper_any (s : ByteArray) (w : World) (hs : s.size ≤ 9223372036854775807) : Calls Tryd.prog 11 #[.string s] w fun e w' => e = .returned (.string (Vb.up s)) ∧ Below w.heap.size w w' := by
  have hbr := Br.text w.drew s (grownCap w s.size 0 5) (grownCap_ge w s.size 0 5) 0 (by have := grownCap_ge w s.size 0 5; omega)
  rw [List.replicate_zero, List.append_nil] at hbr
  obtain ⟨w1, hw1⟩ : ∃ x, x = w.drew.alloc (.cells (bytesRow s (grownCap w s.size 0 5)) 5 ((bytesRow s (grownCap w s.size 0 5)).size, (bytesRow s (grownCap w s.size 0 5)).size + 1)) := ⟨_, rfl⟩
  have hB : Below w.heap.size w w1 := by
    rw [hw1]; exact ((Below.refl w.heap.size w).drew).alloc (by exact Nat.le_refl _) _
  rw [← hw1] at hbr
  obtain ⟨l, hl⟩ : ∃ l, l = s.data.toList := ⟨_, rfl⟩
  have hn : l.length = s.size := by rw [hl, Vb.size_list]
  have hup : Vb.up s = Vb.ofL (l.map Vb.upB) := by rw [hl]; rfl
  rw [← hl, show w.drew.heap.size = w.heap.size from rfl] at hbr
  rw [hup]
  have HN := keep hn
  have HB := keep hB
  have HBR := keep hbr
  have HSZ := keep hs
  have hcv := run_bytes_of_string (P := Tryd.prog) w 9 51 5 s Tryd.underlying9 Tryd.underlying51 Tryd.underlying5
  rw [← hw1] at hcv
  clear hw1 hl hn hup hB hbr hs
  go_enter Tryd.func11, Tryd.ntmps11
  go_wp2_with fail
  clear hcv
  go_loopw [4, 5, 10] (fun v4 v5 v10 wr => ∃ j : Nat, j ≤ s.size ∧ v10 = .int .i64 (j : Nat) ∧ Kept (Br wr w.heap.size (upd l j)) ∧ Kept (Below w.heap.size w wr)) (fun _ _ v10 _ => s.size - (intOf v10).toNat)
  case atStart => exact ⟨0, Nat.zero_le _, rfl, by rw [upd_zero]; exact HBR, HB⟩
  case round =>
    obtain ⟨j, hj, rfl, KB, KW⟩ := hrel
    by_cases hlt : j < s.size
    · have hjl : j < l.length := by rw [HN.out]; exact hlt
      have hz : (j : Int) < (s.size : Int) := by omega
      have hz0 : (0 : Int) ≤ (j : Int) := by omega
      have hdz : decide ((j : Int) < (s.size : Int)) = true := decide_eq_true hz
      obtain ⟨c1, c2⟩ := KB.out.2 j (by rw [upd_len]; exact hjl)
      rw [upd_at l j hjl] at c1
      have hset := upd_set l j hjl
      have hlj : l[j]? = some l[j] := List.getElem?_eq_getElem hjl
      obtain ⟨c, hc⟩ : ∃ c, c = l[j] := ⟨_, rfl⟩
      rw [← hc] at c1 hset hlj
      clear hc
      have HLJ := keep hlj
      have hjw : IntKind.i64.wrap ((j : Int) + 1) = ((j + 1 : Nat) : Int) := by have := HSZ.out; rw [IntKind.wrap_i64]; omega
      by_cases hlow : (97 : Int) ≤ (c.toNat : Int) ∧ (c.toNat : Int) ≤ 122
      · obtain ⟨h1, h2⟩ := hlow
        have hu := up_of c h1 h2
        have HS := keep hset
        have HU := keep hu
        clear hset hu
        go_wp2_with fail
        go_roundw
        case measure => simp [intOf]; omega
        case rel =>
          refine ⟨j + 1, by omega, by rfl, ?_, ?_⟩
          · show Br _ _ _
            rw [← HS.out, HU.out]; exact KB.out.set j _
          · exact KW.out.setCell (by exact Nat.le_refl _) _
      · rw [up_not c hlow] at hset
        have hself : (upd l j).set j c = upd l j := by
          apply List.ext_getElem?
          intro k
          rw [List.getElem?_set]
          split
          · rename_i e
            subst e
            rw [if_pos (by rw [upd_len]; exact hjl), upd_get l j j (by omega), if_neg (by omega), hlj]
          · rfl
        rw [hself] at hset
        have HS := keep hset
        clear hset hself
        by_cases h1 : (97 : Int) ≤ (c.toNat : Int)
        · have h2 : ¬ (c.toNat : Int) ≤ 122 := fun h => hlow ⟨h1, h⟩
          clear hlow
          go_wp2_with fail
          go_roundw
          case measure => simp [intOf]; omega
          case rel => exact ⟨j + 1, by omega, by rfl, by rw [← HS.out]; exact KB, KW⟩
        · clear hlow
          go_wp2_with fail
          go_roundw
          case measure => simp [intOf]; omega
          case rel => exact ⟨j + 1, by omega, by rfl, by rw [← HS.out]; exact KB, KW⟩
    · have hjn : j = s.size := by omega
      have hz : ¬ (j : Int) < (s.size : Int) := by omega
      have hbk := KB.out.back (grownCap w s.size 0 5)
      rw [upd_len, HN.out, hjn, ← HN.out, upd_all, HN.out] at hbk
      clear hjn
      go_wp2_with fail
      go_ret
      exact ⟨rfl, KW.out⟩
end Go.Proofs.YtaflggjgndkdlaaDoor
