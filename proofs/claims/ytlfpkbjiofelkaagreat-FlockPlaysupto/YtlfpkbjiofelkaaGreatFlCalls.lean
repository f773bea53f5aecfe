/-
  Contracts over this program: what the calls of a flock tell, and what they leave.
-/
import Derived.Test.YtlfpkbjiofelkaaGreatFlMath
import Derived.BigRegion
namespace Go.Proofs.YtlfpkbjiofelkaaGreat
open Go.RowKit Go.Shelf
abbrev Sx : Type := Dc.St ByteArray Unit
/-- the roles of a dict's blocks, and of the flock's own one -/
def rr (r : Roles) (R : Nat) : Roles := fun k => if k = R then (6, 0) else r k
theorem rr_zero {r : Roles} {R k : Nat} : rr r R k = (0, 0) ↔ k ≠ R ∧ r k = (0, 0) := by
  unfold rr
  by_cases h : k = R
  · rw [if_pos h]; simp [h]
  · rw [if_neg h]; simp [h]
/-- a flock between two calls lies in block R, its dict in block b -/
def Rec (h : ByteArray → Nat) (N : Nat) (w : World) (r : Roles) (R b seed : Nat) (s : Sx) : Prop :=
  Dd h N w r b seed s ∧ Bnd s ∧ r R = (0, 0) ∧ w.heap[R]? = some (.cells #[.int .u64 seed, .pointer (some ⟨b, 0, none⟩), .int .i64 ((cst (Dc.all s) : Nat) : Int)] 56 (0, 0))
theorem three {w : World} {b : Nat} {v0 v1 v2 : Value} {t : TypeId} (h : w.heap[b]? = some (.cells #[v0, v1, v2] t (0, 0))) :
    w.cell? ⟨b, 0, none⟩ = some v0 ∧ w.cell? ⟨b, 1, none⟩ = some v1 ∧ w.cell? ⟨b, 2, none⟩ = some v2 ∧ ∀ i, w.frozen? ⟨b, i, none⟩ = false := by
  refine ⟨?_, ?_, ?_, fun i => ?_⟩ <;> simp [World.cell?, World.frozen?, h]
theorem Rec.kept {h : ByteArray → Nat} {N : Nat} {w w' : World} {r : Roles} {R b seed : Nat} {s : Sx} (hr : Rec h N w r R b seed s) (hs : w.heap.size ≤ w'.heap.size) (hk : ∀ k, k < w.heap.size → rr r R k ≠ (0, 0) → w'.heap[k]? = w.heap[k]?) : Rec h N w' r R b seed s := by
  obtain ⟨h1, h2, h3, h4⟩ := hr
  have hl := (Array.getElem?_eq_some_iff.1 h4).1
  refine ⟨h1.kept hs (fun k hk1 hk2 => hk k hk1 (fun e => hk2 (rr_zero.1 e).2)), h2, h3, ?_⟩
  rw [hk R hl (fun e => (rr_zero.1 e).1 rfl)]
  exact h4
theorem Rec.below {h : ByteArray → Nat} {N : Nat} {w w' : World} {r : Roles} {R b seed : Nat} {s : Sx} (hr : Rec h N w r R b seed s) (hb : Below w.heap.size w w') : Rec h N w' r R b seed s := hr.kept hb.size (fun k hk _ => hb.block k hk)
theorem Rec.more {h : ByteArray → Nat} {N N' : Nat} {w : World} {r : Roles} {R b seed : Nat} {s : Sx} (hr : Rec h N w r R b seed s) (hN : N ≤ N') : Rec h N' w r R b seed s := ⟨hr.1.more hN, hr.2⟩
theorem Rec.lt {h : ByteArray → Nat} {N : Nat} {w : World} {r : Roles} {R b seed : Nat} {s : Sx} (hr : Rec h N w r R b seed s) : R < w.heap.size := (Array.getElem?_eq_some_iff.1 hr.2.2.2).1
/-- what the dict's own blocks do, the flock's own one standing -/
theorem Fr.rr {w w' : World} {r r' : Roles} (hf : Fr w r w' r') (R : Nat) : Fr w (rr r R) w' (rr r' R) :=
  ⟨hf.1, hf.2.1, fun k hk hz => by
    obtain ⟨h1, h2⟩ := rr_zero.1 hz
    obtain ⟨h3, h4⟩ := hf.2.2 k hk h2
    exact ⟨h3, rr_zero.2 ⟨h1, h4⟩⟩⟩
theorem Fr.cell (w : World) (r : Roles) (R i : Nat) (v : Value) : Fr w (Go.Proofs.YtlfpkbjiofelkaaGreat.rr r R) (w.setCell ⟨R, i, none⟩ v) (Go.Proofs.YtlfpkbjiofelkaaGreat.rr r R) :=
  ⟨⟨rfl, rfl, rfl⟩, by simp [World.setCell], fun k _ hz => ⟨Below.heap_setCell _ _ _ _ (rr_zero.1 hz).1, hz⟩⟩
theorem Fr.drew (w : World) (r : Roles) (n : Nat) : Fr w r (w.drewN n) r := ⟨⟨rfl, rfl, rfl⟩, Nat.le_refl _, fun _ _ h => ⟨rfl, h⟩⟩
set_option maxHeartbeats 400000 in
theorem rnew_any (h : ByteArray → Nat) (w : World) (seed N : Nat) :
    Calls Tryz.prog 5 #[.int .u64 seed] w fun e w' => e = .returned (.pointer (some ⟨w.heap.size + 1, 0, none⟩)) ∧ Below w.heap.size w w' ∧ Rec h N w' (fun k => if k = w.heap.size then (5, 0) else (0, 0)) (w.heap.size + 1) w.heap.size seed Dc.none0 := by
  have mN := new_any h w seed N
  go_enter Tryz.func5, Tryz.ntmps5
  go_wp2_with fail
  refine mN.mono ?_
  rintro _ w1 ⟨rfl, hb, hz, hd⟩
  go_wp2
  go_ret
  refine ⟨rfl, hb.alloc hb.size _, hd.below ((Below.refl _ w1).alloc (Nat.le_refl _) _), ⟨fun k v hk => by simp [lk_none] at hk, by simp [ln_none]⟩, by simp, ?_⟩
  have := heap_alloc_new w1 (.cells #[.int .u64 seed, .pointer (some ⟨w.heap.size, 0, none⟩), .int .i64 0] 56)
  rw [hz] at this
  exact this
set_option maxHeartbeats 400000 in
theorem dictionary_any {h : ByteArray → Nat} {N : Nat} {w : World} {r : Roles} {R b seed : Nat} {s : Sx} (hr : Rec h N w r R b seed s) :
    Calls Tryz.prog 50 #[.pointer (some ⟨R, 0, none⟩)] w fun e w' => e = .returned (.pointer (some ⟨b, 0, none⟩)) ∧ w' = w := by
  obtain ⟨c0, c1, c2, cf⟩ := three hr.2.2.2
  clear hr c0 c2 cf
  go_enter Tryz.func50, Tryz.ntmps50
  go_wp2
  go_ret
  exact ⟨rfl, rfl⟩
set_option maxHeartbeats 400000 in
theorem rlen_any {h : ByteArray → Nat} {N : Nat} {w : World} {r : Roles} {R b seed : Nat} {s : Sx} (hr : Rec h N w r R b seed s) :
    Calls Tryz.prog 33 #[.pointer (some ⟨R, 0, none⟩)] w fun e w' => e = .returned (.int .i64 (ln s)) ∧ w' = w := by
  have mD := dictionary_any hr
  have mL := len_t w r b s hr.1
  clear hr
  go_enter Tryz.func33, Tryz.ntmps33
  go_wp2_with fail
  refine mD.mono ?_
  rintro _ w1 ⟨rfl, rfl⟩
  go_wp2_with fail
  refine mL.mono ?_
  rintro _ w1 ⟨rfl, rfl⟩
  go_wp2
  go_ret
  exact ⟨rfl, rfl⟩
set_option maxHeartbeats 400000 in
theorem rcost_any {h : ByteArray → Nat} {N : Nat} {w : World} {r : Roles} {R b seed : Nat} {s : Sx} (hr : Rec h N w r R b seed s) :
    Calls Tryz.prog 35 #[.pointer (some ⟨R, 0, none⟩)] w fun e w' => e = .returned (.int .i64 ((cst (Dc.all s) : Nat) : Int)) ∧ w' = w := by
  obtain ⟨c0, c1, c2, cf⟩ := three hr.2.2.2
  clear hr c0 c1 cf
  go_enter Tryz.func35, Tryz.ntmps35
  go_wp2
  go_ret
  exact ⟨rfl, rfl⟩
set_option maxHeartbeats 400000 in
theorem fhas_any {h : ByteArray → Nat} {seed N : Nat} (hH : HashIs seed h) {w : World} {r : Roles} {R b : Nat} {s : Sx} (hr : Rec h N w r R b seed s) (hN : N ≤ 2600000000000) (key : ByteArray) (hk : key.size ≤ maxLen) :
    Calls Tryz.prog 29 #[.pointer (some ⟨R, 0, none⟩), .string key] w fun e w' => e = .returned (.bool (lk s key).isSome) ∧ ∃ r' s', Rec h N w' r' R b seed s' ∧ Samd s s' ∧ Fr w (rr r R) w' (rr r' R) := by
  have mD := dictionary_any hr
  have mG := get_t hH w r b s key hr.1 hN hk
  have HR := keep hr
  clear hr
  unfold got at mG
  go_enter Tryz.func29, Tryz.ntmps29
  go_wp2_with fail
  refine mD.mono ?_
  rintro _ w1 ⟨rfl, rfl⟩
  go_wp2_with fail
  refine mG.mono ?_
  rintro _ w2 ⟨rfl, r', s', q1, q2, q3⟩
  go_wp2
  go_ret
  obtain ⟨h1, h2, h3, h4⟩ := HR.out
  have hl := (Array.getElem?_eq_some_iff.1 h4).1
  obtain ⟨k1, k2⟩ := q3.2.2 R hl h3
  have hR2 : Rec h N w2 r' R b seed s' := ⟨q1, h2.sam q2, k2, by rw [k1, h4, cst_perm (sam_cst h1.2.1 q1.2.1 q2)]⟩
  have hb : Below w2.heap.size w2 (w2.alloc (.cells #[] 54)) := (Below.refl _ _).alloc (Nat.le_refl _) _
  exact ⟨rfl, r', s', hR2.below hb, q2, (q3.rr R).trans (Fr.of_below hb)⟩
set_option maxHeartbeats 400000 in
theorem costOf_any (a : ByteArray) (w : World) (ha : a.size ≤ 1048576) :
    Calls Tryz.prog 39 #[.string a] w fun e w' => e = .returned (.int .i64 ((24 + a.size : Nat) : Int)) ∧ w' = w := by
  have w1 : IntKind.i64.wrap (24 + (a.size : Int)) = 24 + (a.size : Int) := by rw [IntKind.wrap_i64]; omega
  clear ha
  go_enter Tryz.func39, Tryz.ntmps39
  go_wp2
  go_ret
  exact ⟨by simp [Int.natCast_add], rfl⟩
end Go.Proofs.YtlfpkbjiofelkaaGreat
