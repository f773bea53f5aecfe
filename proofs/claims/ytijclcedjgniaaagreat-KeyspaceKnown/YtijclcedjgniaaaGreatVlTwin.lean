/-
  Contracts over this program: whether two of a row have one name.
-/
import Derived.Test.YtijclcedjgniaaaGreatVlPlain
import Derived.Maps.OwnSet
import Derived.Maps.OwnIn
import Derived.Maps.Views
namespace Go.Proofs.YtijclcedjgniaaaGreat
open Go.RowKit Go.Shelf
set_option linter.unusedVariables false
set_option linter.unusedSimpArgs false
set_option maxRecDepth 100000
namespace Vl
open Go.Maps
def kyb (x : ByteArray) : List UInt8 := x.data.toList
theorem kyb_inj {a b : ByteArray} (h : kyb a = kyb b) : a = b := by
  cases a; cases b; unfold kyb at h; congr 1; exact Array.ext' h
theorem keyb_of (k : ByteArray) (hk : k.size ≤ maxLen) : keyOf Tryz.prog 9 (.string k) = some (.string (kyb k)) := by
  simp [keyOf, Tryz.underlying9, mapKey, hk, kyb]
/-- the map in block b holds just these names, all unlike -/
def Seen (w : World) (b n : Nat) (N : List ByteArray) : Prop :=
  ∃ D : DataW Unit, w.ownsMap Tryz.prog 9 unitElem b n D ∧ size D = N.length ∧ ∀ k, has D (.string (kyb k)) = true ↔ k ∈ N
theorem Seen.made (w : World) : Seen (w.alloc (.map #[] 0)) w.heap.size 0 [] := ⟨.map [], World.ownsMap_made w _ _ _, rfl, fun k => by simp [has_eq]⟩
theorem Seen.bel {w w' : World} {b n : Nat} {N : List ByteArray} (h : Seen w b n N) (hb : Below w.heap.size w w') : Seen w' b n N := by
  obtain ⟨D, h1, h2⟩ := h
  have hl := h1.lt
  obtain ⟨es, clock, hh, F, hs, hD⟩ := h1
  exact ⟨D, ⟨es, clock, (hb.block b hl).trans hh, F, hs, hD⟩, h2⟩
theorem Seen.put {w : World} {b n : Nat} {N : List ByteArray} (h : Seen w b n N) (k : ByteArray) (hk : k.size ≤ maxLen) (hn : n < maxLen) :
    ∃ w', (Instr.mapUpdate 93 (.map (some b)) (.string k) (.agg #[])).run Tryz.prog w = .ok () w' ∧ w.grownBy w' (some b) ∧
      ((k ∈ N ∧ ∀ ty, (Builtin.len_ #[93] ty #[.map (some b)]).run Tryz.prog w' = .ok (.int .i64 (N.length : Int)) w') ∨
       (k ∉ N ∧ (∀ ty, (Builtin.len_ #[93] ty #[.map (some b)]).run Tryz.prog w' = .ok (.int .i64 ((N.length + 1 : Nat) : Int)) w') ∧ Seen w' b (n + 1) (N ++ [k]))) := by
  obtain ⟨D, h1, h2, h3⟩ := h
  have K := string_keyed (P := Tryz.prog) Tryz.underlying9
  have hT := h1.tidy K
  obtain ⟨w', r1, r2, r3⟩ := h1.store K Tryz.underlying93 hn (keyb_of k hk) (unitElem_mk (H := Unit))
  have hsz := size_put (k := .string (kyb k)) hT (.agg [] : DataW Unit)
  have hlen := fun ty => r2.len Tryz.underlying93 ty
  refine ⟨w', r1, r3.grown, ?_⟩
  by_cases hm : k ∈ N
  · refine .inl ⟨hm, fun ty => ?_⟩
    rw [hlen ty, hsz, if_pos ((h3 k).2 hm), h2]
  · have hm' : has D (.string (kyb k)) = false := by
      cases e : has D (.string (kyb k))
      · rfl
      · exact absurd ((h3 k).1 e) hm
    refine .inr ⟨hm, fun ty => ?_, _, r2, ?_, fun x => ?_⟩
    · rw [hlen ty, hsz, if_neg (by rw [hm']; simp), h2]
    · rw [hsz, if_neg (by rw [hm']; simp), h2]; simp
    · by_cases e : x = k
      · subst e
        rw [has_put_same hT.isMap (by trivial)]; simp
      · rw [has_put_other (fun e' => e (kyb_inj (by injection e'))), h3 x]; simp [e]
/-- q: two are one -/
def Twn (N : List ByteArray) (r : Ending) : Prop := ∃ q : Bool, r = .returned (.bool q) ∧ (q = true ↔ ¬ N.Nodup)
theorem nodup_snoc {N : List ByteArray} {k : ByteArray} (h : N.Nodup) (hk : k ∉ N) : (N ++ [k]).Nodup := by
  rw [List.nodup_append]
  refine ⟨h, by simp, fun a ha b hb => ?_⟩
  simp at hb
  subst hb
  exact fun e => hk (e ▸ ha)
theorem take_snoc {α β : Type} {f : α → β} {l : List α} {k : Nat} {x : α} (h : l[k]? = some x) : (l.map f).take (k + 1) = (l.map f).take k ++ [f x] := by
  have hx : (l.map f)[k]? = some (f x) := by rw [List.getElem?_map, h]; rfl
  rw [List.take_add_one, hx]; rfl
theorem twin_of {α β : Type} {f : α → β} {l : List α} {k : Nat} {x : α} (h : l[k]? = some x) (hm : f x ∈ (l.map f).take k) : ¬ (l.map f).Nodup := by
  intro hn
  have e := take_snoc (f := f) h
  have h2 : ((l.map f).take (k + 1)).Nodup := hn.sublist (List.take_sublist _ _)
  rw [e, List.nodup_append] at h2
  exact h2.2.2 _ hm _ (by simp) rfl
set_option maxHeartbeats 400000 in
theorem name_texts (x : ByteArray) (w : World) : Calls Tryz.prog 196 #[.string x] w fun r w' => r = .returned (.string x) ∧ Below w.heap.size w w' := by
  go_enter Tryz.func196, Tryz.ntmps196
  go_wp2
  go_ret
  exact ⟨rfl, Below.refl _ _⟩
set_option maxHeartbeats 2000000 in
theorem twins_texts (w : World) (v : Value) (l : List (ByteArray)) (hR : It w v l) (hb : ∀ x ∈ l, (x).size ≤ maxLen) :
    Calls Tryz.prog 195 #[v, .func (.func 196) #[] #[]] w fun r w' => Twn (l.map (fun x : ByteArray => x)) r ∧ Below w.heap.size w w' := by
  have hmm := @run_makeMap Tryz.prog
  have sf : ∀ (x : Nat) (w : World) (a : Addr), (store a (.float .f64 x)).run Tryz.prog w = stored Tryz.prog w a (.float .f64 x) .plain := fun x w a => run_store _ w a _ _ rfl
  have hmx := own_max hR
  unfold maxLen at hmx
  obtain ⟨ao, ca, rfl⟩ := own_sl hR
  obtain ⟨L, hL⟩ : ∃ L, l.length = L := ⟨_, rfl⟩
  obtain ⟨N, hN⟩ : ∃ N, l.map (fun x : ByteArray => x) = N := ⟨_, rfl⟩
  have HN := keep hN
  have HS := keep hb
  have HR := keep hR
  have HL := keep hL
  rw [hN]
  rw [hL] at hmx HR ⊢
  obtain ⟨W0, hW0⟩ : ∃ W0, w.alloc (.map #[] 0) = W0 := ⟨_, rfl⟩
  have s0 : Kept (Seen W0 w.heap.size 0 []) := by rw [← hW0]; exact Seen.made w
  have hb0 : Kept (Below w.heap.size w W0) := by rw [← hW0]; exact (Below.refl _ w).alloc (Nat.le_refl _) _
  have HW0 := keep hW0
  clear hR hL hb hN hW0
  go_enter Tryz.func195, Tryz.ntmps195
  go_wp2_with fail
  clear hmm
  go_wp2
  go_loopw [11] (fun i wr => ∃ k : Nat, k ≤ L ∧ i = .int .i64 k ∧ Kept (Seen wr w.heap.size k (N.take k)) ∧ Kept ((N.take k).Nodup) ∧ Kept (Below w.heap.size w wr)) (fun i _ => L - (intOf i).toNat)
  case atStart => exact ⟨0, Nat.zero_le _, rfl, by first | exact s0.out | (rw [HW0.out]; exact s0.out), List.nodup_nil, by first | exact hb0.out | (rw [HW0.out]; exact hb0.out)⟩
  case round =>
    obtain ⟨k, hk, rfl, KS, KD, KB⟩ := hrel
    by_cases hlt : k < L
    · have hz : (k : Int) < (L : Int) := by omega
      have hz0 : (0 : Int) ≤ (k : Int) := by omega
      have KW : IntKind.i64.wrap ((k : Int) + 1) = ((k + 1 : Nat) : Int) := by rw [IntKind.wrap_i64]; omega
      obtain ⟨x, hx⟩ : ∃ x, l[k]? = some x := ⟨_, List.getElem?_eq_getElem (by rw [HL.out]; exact hlt)⟩
      have hsz := HS.out x (List.mem_of_getElem? hx)
      have HX := keep hx
      obtain ⟨g, rfl, hg⟩ : ∃ g, ao = some ⟨g, 0, none⟩ ∧ g < w.heap.size := by
        have h1 := HR.out
        unfold It at h1
        rw [HL.out] at h1
        exact own_some h1 (by omega)
      have c1 : wr.cell? ⟨g, k, none⟩ = some (.string x) := (KB.out.cell (p := ⟨g, k, none⟩) hg).trans (It.at HR.out hx)
      have HSZ := keep hsz
      have mN := name_texts x
      clear hx hsz
      go_wp2_with fail
      refine (mN _).mono ?_
      rintro _ w1 ⟨rfl, hb1⟩
      have hb2 : Below wr.heap.size wr w1 := by first | exact hb1 | exact ((Below.refl _ wr).alloc (Nat.le_refl _) _).trans (hb1.mono (by simp))
      have hNk : (N.take k).length = k := by rw [List.length_take, ← HN.out, List.length_map, HL.out]; omega
      obtain ⟨w2, hrun, hgr, hcase⟩ := (KS.out.bel hb2).put x HSZ.out (by unfold maxLen; omega)
      rw [hNk] at hcase
      have KB2 : Kept (Below w.heap.size w w2) := by
        have h1 := KB.out.trans (hb2.mono KB.out.size)
        exact h1.grown hgr h1.size (fun j e => by cases e; exact Nat.le_refl _)
      clear hb1 hb2 hgr mN c1
      rcases hcase with ⟨hin, hlen⟩ | ⟨hin, hlen, hS2⟩
      · have HIN := keep hin
        have hle : decide ((k : Int) ≤ (k : Int)) = true := decide_eq_true (Int.le_refl _)
        clear hin
        go_wp2
        go_ret
        refine ⟨⟨_, rfl, ⟨fun _ => ?_, fun _ => rfl⟩⟩, KB2.out⟩
        rw [← HN.out]
        exact twin_of HX.out (by rw [HN.out]; exact HIN.out)
      · have HIN := keep hin
        have HS2 := keep hS2
        have hle : decide (((k + 1 : Nat) : Int) ≤ (k : Int)) = false := decide_eq_false (by omega)
        have hle2 : ¬ k + 1 ≤ k := by omega
        have hts : N.take (k + 1) = N.take k ++ [x] := by rw [← HN.out]; exact take_snoc HX.out
        have HTS := keep hts
        clear hin hS2 hts
        go_wp2
        go_roundw
        case measure => simp [intOf]; omega
        case rel =>
          refine ⟨k + 1, by omega, by go_num, ?_, ?_, KB2.out⟩
          · rw [HTS.out]; exact HS2.out
          · rw [HTS.out]; exact nodup_snoc KD.out HIN.out
    · have hz : ¬ (k : Int) < (L : Int) := by omega
      go_wp2
      go_ret
      refine ⟨⟨_, rfl, ⟨(fun h => by cases h), fun h => absurd ?_ h⟩⟩, KB.out⟩
      have e : N.take k = N := List.take_of_length_le (by rw [← HN.out, List.length_map, HL.out]; omega)
      have := KD.out
      rwa [e] at this
set_option maxHeartbeats 400000 in
theorem name_pairs (x : ByteArray × ByteArray) (w : World) : Calls Tryz.prog 198 #[.agg #[.string x.1, .string x.2]] w fun r w' => r = .returned (.string x.1) ∧ Below w.heap.size w w' := by
  obtain ⟨x1, x2⟩ := x
  dsimp only
  go_enter Tryz.func198, Tryz.ntmps198
  go_wp2
  go_ret
  exact ⟨rfl, (Below.refl _ _).alloc (Nat.le_refl _) _⟩
set_option maxHeartbeats 2000000 in
theorem twins_pairs (w : World) (v : Value) (l : List (ByteArray × ByteArray)) (hR : Pr w v l) (hb : ∀ x ∈ l, (x.1).size ≤ maxLen) :
    Calls Tryz.prog 197 #[v, .func (.func 198) #[] #[]] w fun r w' => Twn (l.map (fun x : ByteArray × ByteArray => x.1)) r ∧ Below w.heap.size w w' := by
  have hmm := @run_makeMap Tryz.prog
  have sf : ∀ (x : Nat) (w : World) (a : Addr), (store a (.float .f64 x)).run Tryz.prog w = stored Tryz.prog w a (.float .f64 x) .plain := fun x w a => run_store _ w a _ _ rfl
  have hmx := own_max hR
  unfold maxLen at hmx
  obtain ⟨ao, ca, rfl⟩ := own_sl hR
  obtain ⟨L, hL⟩ : ∃ L, l.length = L := ⟨_, rfl⟩
  obtain ⟨N, hN⟩ : ∃ N, l.map (fun x : ByteArray × ByteArray => x.1) = N := ⟨_, rfl⟩
  have HN := keep hN
  have HS := keep hb
  have HR := keep hR
  have HL := keep hL
  rw [hN]
  rw [hL] at hmx HR ⊢
  obtain ⟨W0, hW0⟩ : ∃ W0, w.alloc (.map #[] 0) = W0 := ⟨_, rfl⟩
  have s0 : Kept (Seen W0 w.heap.size 0 []) := by rw [← hW0]; exact Seen.made w
  have hb0 : Kept (Below w.heap.size w W0) := by rw [← hW0]; exact (Below.refl _ w).alloc (Nat.le_refl _) _
  have HW0 := keep hW0
  clear hR hL hb hN hW0
  go_enter Tryz.func197, Tryz.ntmps197
  go_wp2_with fail
  clear hmm
  go_wp2
  go_loopw [11] (fun i wr => ∃ k : Nat, k ≤ L ∧ i = .int .i64 k ∧ Kept (Seen wr w.heap.size k (N.take k)) ∧ Kept ((N.take k).Nodup) ∧ Kept (Below w.heap.size w wr)) (fun i _ => L - (intOf i).toNat)
  case atStart => exact ⟨0, Nat.zero_le _, rfl, by first | exact s0.out | (rw [HW0.out]; exact s0.out), List.nodup_nil, by first | exact hb0.out | (rw [HW0.out]; exact hb0.out)⟩
  case round =>
    obtain ⟨k, hk, rfl, KS, KD, KB⟩ := hrel
    by_cases hlt : k < L
    · have hz : (k : Int) < (L : Int) := by omega
      have hz0 : (0 : Int) ≤ (k : Int) := by omega
      have KW : IntKind.i64.wrap ((k : Int) + 1) = ((k + 1 : Nat) : Int) := by rw [IntKind.wrap_i64]; omega
      obtain ⟨x, hx⟩ : ∃ x, l[k]? = some x := ⟨_, List.getElem?_eq_getElem (by rw [HL.out]; exact hlt)⟩
      have hsz := HS.out x (List.mem_of_getElem? hx)
      have HX := keep hx
      obtain ⟨g, rfl, hg⟩ : ∃ g, ao = some ⟨g, 0, none⟩ ∧ g < w.heap.size := by
        have h1 := HR.out
        unfold Pr at h1
        rw [HL.out] at h1
        exact own_some h1 (by omega)
      obtain ⟨a1, a2⟩ := Pr.at HR.out hx
      obtain ⟨ok, hok⟩ : ∃ ok, k * 2 = ok := ⟨_, rfl⟩
      rw [hok] at a1 a2
      obtain ⟨x1, x2⟩ := x
      dsimp only at a1 a2 hsz
      have c1 := (KB.out.cell (p := ⟨g, ok, none⟩) hg).trans a1
      have c2 := (KB.out.cell (p := ⟨g, ok + 1, none⟩) hg).trans a2
      clear a1 a2
      have HSZ := keep hsz
      have mN := name_pairs (x1, x2)
      clear hx hsz
      go_wp2_with fail
      refine (mN _).mono ?_
      rintro _ w1 ⟨rfl, hb1⟩
      have hb2 : Below wr.heap.size wr w1 := by first | exact hb1 | exact ((Below.refl _ wr).alloc (Nat.le_refl _) _).trans (hb1.mono (by simp))
      have hNk : (N.take k).length = k := by rw [List.length_take, ← HN.out, List.length_map, HL.out]; omega
      obtain ⟨w2, hrun, hgr, hcase⟩ := (KS.out.bel hb2).put x1 HSZ.out (by unfold maxLen; omega)
      rw [hNk] at hcase
      have KB2 : Kept (Below w.heap.size w w2) := by
        have h1 := KB.out.trans (hb2.mono KB.out.size)
        exact h1.grown hgr h1.size (fun j e => by cases e; exact Nat.le_refl _)
      clear hb1 hb2 hgr mN c1 c2
      rcases hcase with ⟨hin, hlen⟩ | ⟨hin, hlen, hS2⟩
      · have HIN := keep hin
        have hle : decide ((k : Int) ≤ (k : Int)) = true := decide_eq_true (Int.le_refl _)
        clear hin
        go_wp2
        go_ret
        refine ⟨⟨_, rfl, ⟨fun _ => ?_, fun _ => rfl⟩⟩, KB2.out⟩
        rw [← HN.out]
        exact twin_of HX.out (by rw [HN.out]; exact HIN.out)
      · have HIN := keep hin
        have HS2 := keep hS2
        have hle : decide (((k + 1 : Nat) : Int) ≤ (k : Int)) = false := decide_eq_false (by omega)
        have hle2 : ¬ k + 1 ≤ k := by omega
        have hts : N.take (k + 1) = N.take k ++ [x1] := by rw [← HN.out]; exact take_snoc HX.out
        have HTS := keep hts
        clear hin hS2 hts
        go_wp2
        go_roundw
        case measure => simp [intOf]; omega
        case rel =>
          refine ⟨k + 1, by omega, by go_num, ?_, ?_, KB2.out⟩
          · rw [HTS.out]; exact HS2.out
          · rw [HTS.out]; exact nodup_snoc KD.out HIN.out
    · have hz : ¬ (k : Int) < (L : Int) := by omega
      go_wp2
      go_ret
      refine ⟨⟨_, rfl, ⟨(fun h => by cases h), fun h => absurd ?_ h⟩⟩, KB.out⟩
      have e : N.take k = N := List.take_of_length_le (by rw [← HN.out, List.length_map, HL.out]; omega)
      have := KD.out
      rwa [e] at this
set_option maxHeartbeats 400000 in
theorem name_ranks (x : ByteArray × Nat) (w : World) : Calls Tryz.prog 200 #[.agg #[.string x.1, .float .f64 x.2]] w fun r w' => r = .returned (.string x.1) ∧ Below w.heap.size w w' := by
  obtain ⟨x1, x2⟩ := x
  dsimp only
  go_enter Tryz.func200, Tryz.ntmps200
  go_wp2
  go_ret
  exact ⟨rfl, (Below.refl _ _).alloc (Nat.le_refl _) _⟩
set_option maxHeartbeats 2000000 in
theorem twins_ranks (w : World) (v : Value) (l : List (ByteArray × Nat)) (hR : Ra w v l) (hb : ∀ x ∈ l, (x.1).size ≤ maxLen) :
    Calls Tryz.prog 199 #[v, .func (.func 200) #[] #[]] w fun r w' => Twn (l.map (fun x : ByteArray × Nat => x.1)) r ∧ Below w.heap.size w w' := by
  have hmm := @run_makeMap Tryz.prog
  have sf : ∀ (x : Nat) (w : World) (a : Addr), (store a (.float .f64 x)).run Tryz.prog w = stored Tryz.prog w a (.float .f64 x) .plain := fun x w a => run_store _ w a _ _ rfl
  have hmx := own_max hR
  unfold maxLen at hmx
  obtain ⟨ao, ca, rfl⟩ := own_sl hR
  obtain ⟨L, hL⟩ : ∃ L, l.length = L := ⟨_, rfl⟩
  obtain ⟨N, hN⟩ : ∃ N, l.map (fun x : ByteArray × Nat => x.1) = N := ⟨_, rfl⟩
  have HN := keep hN
  have HS := keep hb
  have HR := keep hR
  have HL := keep hL
  rw [hN]
  rw [hL] at hmx HR ⊢
  obtain ⟨W0, hW0⟩ : ∃ W0, w.alloc (.map #[] 0) = W0 := ⟨_, rfl⟩
  have s0 : Kept (Seen W0 w.heap.size 0 []) := by rw [← hW0]; exact Seen.made w
  have hb0 : Kept (Below w.heap.size w W0) := by rw [← hW0]; exact (Below.refl _ w).alloc (Nat.le_refl _) _
  have HW0 := keep hW0
  clear hR hL hb hN hW0
  go_enter Tryz.func199, Tryz.ntmps199
  go_wp2_with fail
  clear hmm
  go_wp2
  go_loopw [11] (fun i wr => ∃ k : Nat, k ≤ L ∧ i = .int .i64 k ∧ Kept (Seen wr w.heap.size k (N.take k)) ∧ Kept ((N.take k).Nodup) ∧ Kept (Below w.heap.size w wr)) (fun i _ => L - (intOf i).toNat)
  case atStart => exact ⟨0, Nat.zero_le _, rfl, by first | exact s0.out | (rw [HW0.out]; exact s0.out), List.nodup_nil, by first | exact hb0.out | (rw [HW0.out]; exact hb0.out)⟩
  case round =>
    obtain ⟨k, hk, rfl, KS, KD, KB⟩ := hrel
    by_cases hlt : k < L
    · have hz : (k : Int) < (L : Int) := by omega
      have hz0 : (0 : Int) ≤ (k : Int) := by omega
      have KW : IntKind.i64.wrap ((k : Int) + 1) = ((k + 1 : Nat) : Int) := by rw [IntKind.wrap_i64]; omega
      obtain ⟨x, hx⟩ : ∃ x, l[k]? = some x := ⟨_, List.getElem?_eq_getElem (by rw [HL.out]; exact hlt)⟩
      have hsz := HS.out x (List.mem_of_getElem? hx)
      have HX := keep hx
      obtain ⟨g, rfl, hg⟩ : ∃ g, ao = some ⟨g, 0, none⟩ ∧ g < w.heap.size := by
        have h1 := HR.out
        unfold Ra at h1
        rw [HL.out] at h1
        exact own_some h1 (by omega)
      obtain ⟨a1, a2⟩ := Ra.at HR.out hx
      obtain ⟨ok, hok⟩ : ∃ ok, k * 2 = ok := ⟨_, rfl⟩
      rw [hok] at a1 a2
      obtain ⟨x1, x2⟩ := x
      dsimp only at a1 a2 hsz
      have c1 := (KB.out.cell (p := ⟨g, ok, none⟩) hg).trans a1
      have c2 := (KB.out.cell (p := ⟨g, ok + 1, none⟩) hg).trans a2
      clear a1 a2
      have HSZ := keep hsz
      have mN := name_ranks (x1, x2)
      clear hx hsz
      go_wp2_with fail
      refine (mN _).mono ?_
      rintro _ w1 ⟨rfl, hb1⟩
      have hb2 : Below wr.heap.size wr w1 := by first | exact hb1 | exact ((Below.refl _ wr).alloc (Nat.le_refl _) _).trans (hb1.mono (by simp))
      have hNk : (N.take k).length = k := by rw [List.length_take, ← HN.out, List.length_map, HL.out]; omega
      obtain ⟨w2, hrun, hgr, hcase⟩ := (KS.out.bel hb2).put x1 HSZ.out (by unfold maxLen; omega)
      rw [hNk] at hcase
      have KB2 : Kept (Below w.heap.size w w2) := by
        have h1 := KB.out.trans (hb2.mono KB.out.size)
        exact h1.grown hgr h1.size (fun j e => by cases e; exact Nat.le_refl _)
      clear hb1 hb2 hgr mN c1 c2
      rcases hcase with ⟨hin, hlen⟩ | ⟨hin, hlen, hS2⟩
      · have HIN := keep hin
        have hle : decide ((k : Int) ≤ (k : Int)) = true := decide_eq_true (Int.le_refl _)
        clear hin
        go_wp2
        go_ret
        refine ⟨⟨_, rfl, ⟨fun _ => ?_, fun _ => rfl⟩⟩, KB2.out⟩
        rw [← HN.out]
        exact twin_of HX.out (by rw [HN.out]; exact HIN.out)
      · have HIN := keep hin
        have HS2 := keep hS2
        have hle : decide (((k + 1 : Nat) : Int) ≤ (k : Int)) = false := decide_eq_false (by omega)
        have hle2 : ¬ k + 1 ≤ k := by omega
        have hts : N.take (k + 1) = N.take k ++ [x1] := by rw [← HN.out]; exact take_snoc HX.out
        have HTS := keep hts
        clear hin hS2 hts
        go_wp2
        go_roundw
        case measure => simp [intOf]; omega
        case rel =>
          refine ⟨k + 1, by omega, by go_num, ?_, ?_, KB2.out⟩
          · rw [HTS.out]; exact HS2.out
          · rw [HTS.out]; exact nodup_snoc KD.out HIN.out
    · have hz : ¬ (k : Int) < (L : Int) := by omega
      go_wp2
      go_ret
      refine ⟨⟨_, rfl, ⟨(fun h => by cases h), fun h => absurd ?_ h⟩⟩, KB.out⟩
      have e : N.take k = N := List.take_of_length_le (by rw [← HN.out, List.length_map, HL.out]; omega)
      have := KD.out
      rwa [e] at this
end Vl
end Go.Proofs.YtijclcedjgniaaaGreat
