/-
  Contracts over this program: what was touched is told, and forgotten.
-/
import Derived.Test.YtijclcedjgniaaaGreatKsNil
import Derived.Test.YtijclcedjgniaaaGreatsortZL
import Derived.Sort.KeysCollected
namespace Go.Proofs.YtijclcedjgniaaaGreat
open Go.RowKit Go.Shelf Go.Sort Go.Maps
set_option linter.unusedVariables false
set_option maxRecDepth 100000
namespace Ks
def unk (b : List UInt8) : ByteArray := ⟨b.toArray⟩
theorem unk_ky (x : ByteArray) : unk (Vl.kyb x) = x := Vl.kyb_inj (by simp [unk, Vl.kyb])
theorem ky_unk (b : List UInt8) : Vl.kyb (unk b) = b := by simp [unk, Vl.kyb]
/-- a row in its order -/
def srt (T : List ByteArray) : List ByteArray := ((T.map Vl.kyb).mergeSort (fun x y => decide (x ≤ y))).map unk
theorem srt_perm (T : List ByteArray) : (srt T).Perm T := by
  have hp := (List.mergeSort_perm (T.map Vl.kyb) (fun x y => decide (x ≤ y))).map unk
  rw [List.map_map, show unk ∘ Vl.kyb = id from funext unk_ky, List.map_id] at hp
  exact hp
theorem srt_len (T : List ByteArray) : (srt T).length = T.length := (srt_perm T).length_eq
theorem insT_nodup {T : List ByteArray} (h : T.Nodup) (k : ByteArray) : (insT T k).Nodup := by
  unfold insT
  by_cases hm : k ∈ T
  · rw [if_pos ((any_iff T k).2 hm)]; exact h
  · rw [if_neg (fun e => hm ((any_iff T k).1 e))]; exact Vl.nodup_snoc h hm
theorem sorts_is (m : Nat) : AnyZ.SortsIn Tryz.prog Tryz.sortZ_ren Fence.wide m :=
  ⟨fun blk off cap ss W hH hblk hsz => callsIn_wide.2 (AnyM.slices_Sort_string Tryz.sortS blk off cap ss W hH hblk hsz),
   fun p cap W => callsIn_wide.2 (AnyM.slices_Sort_string_none Tryz.sortS p cap W)⟩
theorem keys_at (mb : Option Nat) (W : World) : Calls Tryz.prog 60 #[.map mb] W fun e w' => e = .returned (.func (.func 111) #[] #[.pointer (some ⟨W.heap.size, 0, none⟩)]) ∧ w' = W.alloc (.cells #[.map mb] 93) :=
  callsIn_wide.1 (AnyZ.keys_in Tryz.sortK Fence.wide 5 trivial rfl mb W)
set_option maxHeartbeats 1000000 in
theorem sorted_at {H : Type} (b nn : Nat) (D0 : DataW H) (R : Value → Option (DataW H × List MemPlace)) (w : World) (hown : w.ownsMap Tryz.prog 9 R b nn D0) (hmax : Maps.size D0 ≤ maxLen) (hbytes : Maps.size D0 * 16 ≤ 140737488355328) :
    Calls Tryz.prog 59 #[.func (.func 111) #[] #[.pointer (some ⟨w.heap.size, 0, none⟩)]] (w.alloc (.cells #[.map (some b)] 93)) fun e w' => ∃ (v : Value) (ss : List (List UInt8)), e = .returned v ∧ ss.Perm (strKeys D0) ∧
      w'.ownsRow (w.alloc (.cells #[.map (some b)] 93)).heap.size 9 1 v ss.length ((ss.mergeSort (fun x y => decide (x ≤ y))).map encStr) ∧ (v = .slice none 0 0 ↔ ss = []) ∧ RowKit.Below (w.alloc (.cells #[.map (some b)] 93)).heap.size (w.alloc (.cells #[.map (some b)] 93)) w' := by
  have hbl := hown.lt
  have hseq : SeqGives Fence.wide 2 Tryz.prog 111 #[.pointer (some ⟨w.heap.size, 0, none⟩)] encStr (fun ss => ss.Perm (strKeys D0)) (Maps.size D0) (w.alloc (.cells #[.map (some b)] 93)) :=
    AnyZ.keys_gives (ρ := Tryz.sortK_ren) { Tryz.sortK with } Fence.wide _ trivial rfl (by omega) w.heap.size b nn D0 _ (by simp) (by simp) (by
      obtain ⟨es, clock, hb, Ft, hs, hD⟩ := hown
      exact ⟨es, clock, (RowKit.Below.heap_alloc _ _ b hbl).trans hb, Ft, hs, hD⟩)
  exact callsIn_wide.1 (AnyZ.sorted_in Tryz.sortZ Fence.wide 5 trivial trivial trivial trivial rfl (by omega) (sorts_is _) (enters_of Tryz.func62 (by kernel_rfl) rfl) 111 #[.pointer (some ⟨w.heap.size, 0, none⟩)] trivial (enters_of Tryz.func111 (by kernel_rfl) rfl) _ _ hmax hbytes _ hseq)
/-- the keys of a map of names -/
theorem keys_of {w : World} {b n : Nat} {D : DataW Unit} {T : List ByteArray} (h : w.ownsMap Tryz.prog 9 unitElem b n D) (hh : ∀ k, has D (.string (Vl.kyb k)) = true ↔ k ∈ T) (hn : T.Nodup) : (T.map Vl.kyb).Perm (strKeys D) := by
  obtain ⟨es, hD, hpw, _⟩ := h.entries (string_keyed Tryz.underlying9)
  obtain ⟨es', hD', hko⟩ := h.keysOf
  obtain rfl : es = es' := by rw [hD] at hD'; simpa using hD'
  subst hD
  refine perm_strKeys hpw (fun p hp => by obtain ⟨v, hv⟩ := hko p hp; obtain ⟨x, _, hx, _⟩ := Maps.keyOf_str Tryz.underlying9 hv; exact ⟨x, hx⟩) ?_ (fun x => ?_)
  · rw [List.nodup_iff_pairwise_ne, List.pairwise_map]
    rw [List.nodup_iff_pairwise_ne] at hn
    exact hn.imp (fun {a b} hab e => hab (Vl.kyb_inj e))
  · have h1 := hh (unk x)
    rw [ky_unk] at h1
    rw [h1]
    constructor
    · intro hx
      obtain ⟨y, hy, rfl⟩ := List.mem_map.1 hx
      rwa [unk_ky]
    · intro hx
      exact List.mem_map.2 ⟨_, hx, ky_unk x⟩
theorem seen_clear {w : World} {b n : Nat} {T : List ByteArray} (h : Vl.Seen w b n T) :
    ∃ w', (∀ ty, (Builtin.clear_ #[93] ty #[.map (some b)]).run Tryz.prog w = .ok (.tuple #[]) w') ∧ w.grownBy w' (some b) ∧ Vl.Seen w' b 0 [] := by
  obtain ⟨D, ⟨es, clock, hb, F, hs, hD⟩, h2, h3⟩ := h
  have hl := (Array.getElem?_eq_some_iff.1 hb).1
  refine ⟨{ w with heap := w.heap.setIfInBounds b (.map #[] clock) }, ?_, ⟨rfl, rfl, rfl, by simp, fun k hk hne => ?_⟩, .map [], ⟨#[], clock, by simp [hl], ⟨by simp, MapKept.stamped_empty clock, by simp⟩, Nat.le_refl _, rfl⟩, rfl, fun k => by simp [has_eq]⟩
  · intro ty
    have g1 : (getObj b).run Tryz.prog w = .ok (.map es clock) w := by simp [getObj, Sem.run, hb]
    have g2 : (setObj b (.map #[] clock)).run Tryz.prog w = .ok () { w with heap := w.heap.setIfInBounds b (.map #[] clock) } := by simp [setObj, Sem.run, hb]
    simp [Builtin.clear_, g1, g2]
  · simp [Array.getElem?_setIfInBounds]
    intro e
    exact absurd (by rw [e]) hne
set_option maxHeartbeats 1000000 in
theorem touched_any {N : Nat} {w : World} {R : Ro} {b : Nat} {s : Sx} (h : Sp N w R b s) (hn : s.T.Nodup) (hl : s.T.length ≤ 8000000000000) :
    Calls Tryz.prog 14 #[pb b] w fun e w' => (∃ v, e = .returned v ∧ Vl.It w' v (srt s.T) ∧ ∀ k, v.ownBlock = some k → w.heap.size ≤ k) ∧ Sp N w' R b { s with tn := 0, T := [] } ∧ Fs w R w' R := by
  obtain ⟨sv, hpb, _⟩ := h.blk
  obtain ⟨_, _, _, _, _, _, _, _, _, d9, _, df⟩ := hpb.cells
  obtain ⟨D, hown, hsz, hhas⟩ := h.tch.2
  have mS := sorted_at s.tb s.tn D _ w hown (by rw [hsz]; unfold maxLen; omega) (by rw [hsz]; omega)
  have hP := keys_of hown hhas hn
  have hbl := (Array.getElem?_eq_some_iff.1 hpb.2).1
  have HP := keep hP
  have H := keep h
  have HPB := keep hpb
  have HBL := keep hbl
  clear h hpb hown hsz hhas hP hn hl df hbl
  go_enter Tryz.func14, Tryz.ntmps14
  go_wp2_with fail
  refine (keys_at _ _).mono ?_
  rintro _ w' ⟨rfl, hw'⟩
  subst hw'
  have hb1 : Below w.heap.size w (w.alloc (.cells #[.map (some s.tb)] 93)) := (Below.refl _ w).alloc (Nat.le_refl _) _
  have HB1 := keep hb1
  clear hb1
  go_wp2_with fail
  refine mS.mono ?_
  rintro _ w3 ⟨v, ss, rfl, hss, hrow, _, hb3⟩
  have hb : Below w.heap.size w w3 := HB1.out.trans (hb3.mono (by simp))
  have hR : w3.ownsRow (w.alloc (.cells #[.map (some s.tb)] 93)).heap.size 9 1 v (srt s.T).length ((srt s.T).map Value.string) := by
    have e1 : ss.mergeSort (fun x y => decide (x ≤ y)) = (s.T.map Vl.kyb).mergeSort (fun x y => decide (x ≤ y)) := mergeSort_of_perm (hss.trans HP.out.symm)
    have e2 : ss.length = (srt s.T).length := by unfold srt; rw [List.length_map, ← e1, List.length_mergeSort]
    rw [← e2]
    have e3 : (srt s.T).map Value.string = (ss.mergeSort (fun x y => decide (x ≤ y))).map encStr := by
      rw [e1]; unfold srt; rw [List.map_map]; rfl
    rw [e3]
    exact hrow
  have h3 := H.out.bel hb
  obtain ⟨w4, r1, r2, r3⟩ := seen_clear h3.tch.2
  obtain ⟨sv3, hpb3, _⟩ := h3.blk
  obtain ⟨_, _, _, _, _, _, _, _, _, e9, _, _⟩ := hpb3.cells
  obtain ⟨ao, ca, hv⟩ := Vl.own_sl hR
  obtain ⟨LL, hLL⟩ : ∃ LL, (srt s.T).length = LL := ⟨_, rfl⟩
  rw [hLL] at hv hR
  subst hv
  have HLL := keep hLL
  have HR := keep hR
  have H3 := keep h3
  have HB := keep hb
  have R2 := keep r2
  have R3 := keep r3
  clear mS hss hrow hb3 hR h3 hpb3 hb r2 r3 d9 hLL
  go_wp2
  go_ret
  have hg := R2.out
  have c : Ch (· = ro 4) w3 R w4 R := ⟨hg.os, hg.tape, hg.output, hg.size, fun k hk hn => ⟨hg.block k hk (fun e => hn (by injection e with e; rw [e]; exact H3.out.tch.1)), rfl⟩, fun k hk => Nat.lt_of_lt_of_le (H3.out.lt k hk) hg.size⟩
  refine ⟨⟨.slice ao LL ca, rfl, ?_, fun k e => ?_⟩, H3.out.tchs c _ _ ⟨H3.out.tch.1, R3.out⟩, (Ch.bel HB.out H.out.lt : Fs w R w3 R).trans (c.mono (own_ro (by decide) (by decide)))⟩
  · unfold Vl.It
    rw [HLL.out]
    have h1 := HR.out.lt
    refine Vl.base0 (DP.own_kept HR.out (fun k e => hg.block k (h1 k e).2 (fun e' => ?_)))
    have h2 := (h1 k e).1
    have h3 : s.tb < w.heap.size := H.out.lt s.tb (by rw [H.out.tch.1]; exact ro_ne (by decide))
    injection e' with e'
    simp at h2
    omega
  · have h2 := (HR.out.lt k e).1
    simp at h2
    omega
end Ks
end Go.Proofs.YtijclcedjgniaaaGreat
