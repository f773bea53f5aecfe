/-
  Contracts over this program: the calls of a dict as those of a table; what each statement asks first (wakes).
-/
import Derived.Test.YtapehjlpiobeaaaDictDel
namespace Go.Proofs.Ytapehjlpiobeaaa
open Go.RowKit Go.Shelf
/-- what lies under a key -/
def lk (s : Dc.St ByteArray Nat) (k : ByteArray) : Option Nat := Dc.look k (Dc.all s)
def ln (s : Dc.St ByteArray Nat) : Nat := (Dc.all s).length
def Setd (s s' : Dc.St ByteArray Nat) (key : ByteArray) (v : Nat) : Prop := (∀ k, lk s' k = if k = key then some v else lk s k) ∧ ln s' = ln s + (if (lk s key).isNone then 1 else 0)
def Deld (s s' : Dc.St ByteArray Nat) (key : ByteArray) : Prop := (∀ k, lk s' k = if k = key then none else lk s k) ∧ ln s' = ln s - (if (lk s key).isSome then 1 else 0)
def Samd (s s' : Dc.St ByteArray Nat) : Prop := (∀ k, lk s' k = lk s k) ∧ ln s' = ln s
theorem samd_step {h : ByteArray → Nat} {s : Dc.St ByteArray Nat} (hI : Dc.Inv h s) : Samd s (Dc.step h s) := by
  obtain ⟨q1, q2⟩ := Dc.step_inv hI
  exact ⟨fun k => Dc.look_perm (by rw [Dc.all_eq q1]; exact q1.nodup) q2 k, q2.length_eq⟩
theorem setd_of {h : ByteArray → Nat} {s : Dc.St ByteArray Nat} (hI : Dc.Inv h s) (key : ByteArray) (v : Nat) : Setd s (Dc.set h s key v).1 key v := ⟨(Dc.set_inv hI key v).2.2.1, (Dc.set_inv hI key v).2.2.2⟩
theorem deld_of {h : ByteArray → Nat} {s : Dc.St ByteArray Nat} (hI : Dc.Inv h s) (key : ByteArray) : Deld s (Dc.delete h s key).1 key := ⟨(Dc.delete_inv hI key).2.2.1, (Dc.delete_inv hI key).2.2.2⟩
theorem set_t {h : ByteArray → Nat} {seed N : Nat} (hH : HashIs seed h) (w : World) (r : Roles) (b : Nat) (s : Dc.St ByteArray Nat) (key : ByteArray) (v : Nat) (hd : Dd h N w r b seed s) (hN : N + 1 ≤ 2600000000000) (hk : key.size ≤ maxLen) :
    Calls Try.prog 24 #[.pointer (some ⟨b, 0, none⟩), .string key, .float .f64 v] w fun e w' => e = .returned (.bool (lk s key).isNone) ∧ ∃ r' s', Dd h (N + 1) w' r' b seed s' ∧ Setd s s' key v ∧ Fr w r w' r' := by
  refine (set_any hH w r b s key v hd hN hk).mono ?_
  rintro _ w' ⟨rfl, r', q1, q2⟩
  exact ⟨rfl, r', _, q1, setd_of hd.2.1 key v, q2⟩
theorem get_t {h : ByteArray → Nat} {seed N : Nat} (hH : HashIs seed h) (w : World) (r : Roles) (b : Nat) (s : Dc.St ByteArray Nat) (key : ByteArray) (hd : Dd h N w r b seed s) (hN : N ≤ 2600000000000) (hk : key.size ≤ maxLen) :
    Calls Try.prog 43 #[.pointer (some ⟨b, 0, none⟩), .string key] w fun e w' => e = .returned (got (lk s key)) ∧ ∃ r' s', Dd h N w' r' b seed s' ∧ Samd s s' ∧ Fr w r w' r' := by
  refine (get_any hH w r b s key hd hN hk).mono ?_
  rintro _ w' ⟨rfl, r', q1, q2⟩
  exact ⟨rfl, r', _, q1, samd_step hd.2.1, q2⟩
theorem del_t {h : ByteArray → Nat} {seed N : Nat} (hH : HashIs seed h) (w : World) (r : Roles) (b : Nat) (s : Dc.St ByteArray Nat) (key : ByteArray) (hd : Dd h N w r b seed s) (hN : N + 1 ≤ 2600000000000) (hk : key.size ≤ maxLen) :
    Calls Try.prog 55 #[.pointer (some ⟨b, 0, none⟩), .string key] w fun e w' => e = .returned (.bool (lk s key).isSome) ∧ ∃ r' s', Dd h N w' r' b seed s' ∧ Deld s s' key ∧ Fr w r w' r' := by
  refine (delete_any hH w r b s key hd hN hk).mono ?_
  rintro _ w' ⟨rfl, r', q1, q2⟩
  exact ⟨rfl, r', _, q1, deld_of hd.2.1 key, q2⟩
theorem len_t {h : ByteArray → Nat} {seed N : Nat} (w : World) (r : Roles) (b : Nat) (s : Dc.St ByteArray Nat) (hd : Dd h N w r b seed s) :
    Calls Try.prog 39 #[.pointer (some ⟨b, 0, none⟩)] w fun e w' => e = .returned (.int .i64 (ln s)) ∧ w' = w := len_any w r b seed _ s hd.1
theorem ln_none : ln Dc.none0 = 0 := rfl
theorem lk_none (k : ByteArray) : lk Dc.none0 k = none := rfl
def aa : ByteArray := { data := #[97] }
theorem aa_size : aa.size ≤ maxLen := by decide
end Go.Proofs.Ytapehjlpiobeaaa
