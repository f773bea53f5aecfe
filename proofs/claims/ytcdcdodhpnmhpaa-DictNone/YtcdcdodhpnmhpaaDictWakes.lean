/-
  Contracts over this program: the calls of a dict as those of a table; what each statement asks first (wakes).
-/
import Derived.Test.YtcdcdodhpnmhpaaDictDel
namespace Go.Proofs.Ytcdcdodhpnmhpaa
open Go.RowKit Go.Shelf
/-- what lies under a key -/
def lk (s : Dc.St ByteArray Int) (k : ByteArray) : Option Int := Dc.look k (Dc.all s)
def ln (s : Dc.St ByteArray Int) : Nat := (Dc.all s).length
def Setd (s s' : Dc.St ByteArray Int) (key : ByteArray) (v : Int) : Prop := (∀ k, lk s' k = if k = key then some v else lk s k) ∧ ln s' = ln s + (if (lk s key).isNone then 1 else 0)
def Deld (s s' : Dc.St ByteArray Int) (key : ByteArray) : Prop := (∀ k, lk s' k = if k = key then none else lk s k) ∧ ln s' = ln s - (if (lk s key).isSome then 1 else 0)
def Samd (s s' : Dc.St ByteArray Int) : Prop := (∀ k, lk s' k = lk s k) ∧ ln s' = ln s
theorem samd_step {h : ByteArray → Nat} {s : Dc.St ByteArray Int} (hI : Dc.Inv h s) : Samd s (Dc.step h s) := by
  obtain ⟨q1, q2⟩ := Dc.step_inv hI
  exact ⟨fun k => Dc.look_perm (by rw [Dc.all_eq q1]; exact q1.nodup) q2 k, q2.length_eq⟩
theorem setd_of {h : ByteArray → Nat} {s : Dc.St ByteArray Int} (hI : Dc.Inv h s) (key : ByteArray) (v : Int) : Setd s (Dc.set h s key v).1 key v := ⟨(Dc.set_inv hI key v).2.2.1, (Dc.set_inv hI key v).2.2.2⟩
theorem deld_of {h : ByteArray → Nat} {s : Dc.St ByteArray Int} (hI : Dc.Inv h s) (key : ByteArray) : Deld s (Dc.delete h s key).1 key := ⟨(Dc.delete_inv hI key).2.2.1, (Dc.delete_inv hI key).2.2.2⟩
theorem set_t {h : ByteArray → Nat} {seed N : Nat} (hH : HashIs seed h) (w : World) (r : Roles) (b : Nat) (s : Dc.St ByteArray Int) (key : ByteArray) (v : Int) (hd : Dd h N w r b seed s) (hN : N + 1 ≤ 2600000000000) (hk : key.size ≤ maxLen) :
    Calls Try.prog 26 #[.pointer (some ⟨b, 0, none⟩), .string key, .int .i64 v] w fun e w' => e = .returned (.bool (lk s key).isNone) ∧ ∃ r' s', Dd h (N + 1) w' r' b seed s' ∧ Setd s s' key v ∧ Fr w r w' r' := by
  refine (set_any hH w r b s key v hd hN hk).mono ?_
  rintro _ w' ⟨rfl, r', q1, q2⟩
  exact ⟨rfl, r', _, q1, setd_of hd.2.1 key v, q2⟩
theorem get_t {h : ByteArray → Nat} {seed N : Nat} (hH : HashIs seed h) (w : World) (r : Roles) (b : Nat) (s : Dc.St ByteArray Int) (key : ByteArray) (hd : Dd h N w r b seed s) (hN : N ≤ 2600000000000) (hk : key.size ≤ maxLen) :
    Calls Try.prog 22 #[.pointer (some ⟨b, 0, none⟩), .string key] w fun e w' => e = .returned (got (lk s key)) ∧ ∃ r' s', Dd h N w' r' b seed s' ∧ Samd s s' ∧ Fr w r w' r' := by
  refine (get_any hH w r b s key hd hN hk).mono ?_
  rintro _ w' ⟨rfl, r', q1, q2⟩
  exact ⟨rfl, r', _, q1, samd_step hd.2.1, q2⟩
theorem del_t {h : ByteArray → Nat} {seed N : Nat} (hH : HashIs seed h) (w : World) (r : Roles) (b : Nat) (s : Dc.St ByteArray Int) (key : ByteArray) (hd : Dd h N w r b seed s) (hN : N + 1 ≤ 2600000000000) (hk : key.size ≤ maxLen) :
    Calls Try.prog 27 #[.pointer (some ⟨b, 0, none⟩), .string key] w fun e w' => e = .returned (.bool (lk s key).isSome) ∧ ∃ r' s', Dd h N w' r' b seed s' ∧ Deld s s' key ∧ Fr w r w' r' := by
  refine (delete_any hH w r b s key hd hN hk).mono ?_
  rintro _ w' ⟨rfl, r', q1, q2⟩
  exact ⟨rfl, r', _, q1, deld_of hd.2.1 key, q2⟩
theorem len_t {h : ByteArray → Nat} {seed N : Nat} (w : World) (r : Roles) (b : Nat) (s : Dc.St ByteArray Int) (hd : Dd h N w r b seed s) :
    Calls Try.prog 18 #[.pointer (some ⟨b, 0, none⟩)] w fun e w' => e = .returned (.int .i64 (ln s)) ∧ w' = w := len_any w r b seed _ s hd.1
theorem ln_none : ln Dc.none0 = 0 := rfl
theorem lk_none (k : ByteArray) : lk Dc.none0 k = none := rfl
def aa : ByteArray := { data := #[97] }
theorem aa_size : aa.size ≤ maxLen := by decide
set_option maxRecDepth 100000 in
set_option maxHeartbeats 1000000 in
theorem wakes_any (w : World) : Calls Try.prog 16 #[] w fun e w' => e = .returned (.bool true) ∧ Below w.heap.size w w' := by
  have hH := hs_is 5 (by rw [Dw.M_is]; omega)
  generalize hs 5 = h at hH
  have mN := new_any h w 5 0
  go_enter Try.func16, Try.ntmps16
  go_wp2_with fail
  refine mN.mono ?_
  rintro _ w1 ⟨rfl, hb1, hs1, hd1⟩
  have mS := set_t hH w1 _ _ _ aa 1 hd1 (by omega) aa_size
  have HB := keep hb1
  clear mN hb1 hs1 hd1
  rw [lk_none] at mS
  go_wp2_with fail
  refine mS.mono ?_
  rintro _ w2 ⟨rfl, r2, s2, hd2, ht2, hf2⟩
  have l2 : lk s2 aa = some 1 := by rw [ht2.1, if_pos rfl]
  have n2 : ln s2 = 1 := by rw [ht2.2]; rfl
  have mT := set_t hH w2 r2 _ s2 aa 2 hd2 (by omega) aa_size
  rw [l2] at mT
  have HF := keep hf2
  clear mS hd2 ht2 hf2
  go_wp2_with fail
  refine mT.mono ?_
  rintro _ w3 ⟨rfl, r3, s3, hd3, ht3, hf3⟩
  have l3 : lk s3 aa = some 2 := by rw [ht3.1, if_pos rfl]
  have n3 : ln s3 = 1 := by rw [ht3.2, l2, n2]; rfl
  have mL := len_t w3 r3 _ s3 hd3
  rw [n3] at mL
  have mG := get_t hH w3 r3 _ s3 aa hd3 (by omega) aa_size
  rw [l3] at mG
  have HF3 := keep (HF.out.trans hf3)
  clear mT hd3 ht3 hf3 l2 n2 HF
  go_wp2_with fail
  refine mL.mono ?_
  rintro _ w' ⟨rfl, hw'⟩
  subst hw'
  clear mL
  go_wp2_with fail
  refine mG.mono ?_
  rintro _ w4 ⟨rfl, r4, s4, hd4, ht4, hf4⟩
  have l4 : lk s4 aa = some 2 := by rw [ht4.1, l3]
  have n4 : ln s4 = 1 := by rw [ht4.2, n3]
  have mD := del_t hH w4 r4 _ s4 aa hd4 (by omega) aa_size
  rw [l4] at mD
  have HF4 := keep (HF3.out.trans hf4)
  clear mG hd4 ht4 hf4 l3 n3 HF3
  unfold got
  go_wp2_with fail
  refine mD.mono ?_
  rintro _ w5 ⟨rfl, r5, s5, hd5, ht5, hf5⟩
  have l5 : lk s5 aa = none := by rw [ht5.1, if_pos rfl]
  have n5 : ln s5 = 0 := by rw [ht5.2, n4, l4]; rfl
  have mE := del_t hH w5 r5 _ s5 aa hd5 (by omega) aa_size
  rw [l5] at mE
  have HF5 := keep (HF4.out.trans hf5)
  clear mD hd5 ht5 hf5 l4 n4 HF4
  go_wp2_with fail
  refine mE.mono ?_
  rintro _ w6 ⟨rfl, r6, s6, hd6, ht6, hf6⟩
  have n6 : ln s6 = 0 := by rw [ht6.2, n5, l5]; rfl
  have mZ := len_t w6 r6 _ s6 hd6
  rw [n6] at mZ
  have HF6 := keep (HF5.out.trans hf6)
  clear mE hd6 ht6 hf6 l5 n5 HF5
  go_wp2_with fail
  refine mZ.mono ?_
  rintro _ w' ⟨rfl, hw'⟩
  subst hw'
  go_wp2
  go_ret
  refine ⟨rfl, HB.out.trans (HF6.out.below HB.out.size (fun k hk => ?_))⟩
  show (if k = w.heap.size then _ else _) = _
  rw [if_neg (by omega)]
end Go.Proofs.Ytcdcdodhpnmhpaa
