/-
  Plain mathematics on replies: an error is not 0; how many replies there are against their bytes.
-/
import Derived.Test.YtoalnfkjpdgbiaaDoorRpForm
import Derived.Test.YtoalnfkjpdgbiaaDoorRpVerd
namespace Go.Proofs.YtoalnfkjpdgbiaaDoor
set_option linter.unusedVariables false
namespace Rp
theorem cntF_err0 {s : List UInt8} {c : Int} (h : cntF s = .error c) : c ≠ 0 := by
  unfold cntF at h
  split at h
  · split at h
    · cases h
    · cases h; decide
  · cases h; decide
theorem lineF_err0 : ∀ (r : List UInt8) (c : Int), lineF r = .error c → c ≠ 0
  | [], c, h => by
    have h' : (Except.error 5 : Except Int (List UInt8 × List UInt8)) = .error c := h
    cases h'; decide
  | x :: r, c, h => by
    unfold lineF at h
    split at h
    · cases h; decide
    · split at h
      · split at h
        · cases h; decide
        · split at h
          · cases h
          · cases h; decide
      · split at h
        · rename_i e he
          cases h
          exact lineF_err0 r _ he
        · cases h
theorem decW_err0 {α : Type} {D : Nat → List UInt8 → Except Int (List α × List UInt8)} (hD : ∀ m r c, D m r = .error c → c ≠ 0) (b : List UInt8) (c : Int) (h : decW D b = .error c) : c ≠ 0 := by
  unfold decW at h
  split at h
  · cases h; decide
  · split at h
    · cases h; decide
    · split at h
      · rename_i e he
        cases h
        exact lineF_err0 _ _ he
      · unfold lineK at h
        split at h
        · split at h
          · cases h
          · cases h; decide
        · split at h
          · unfold bulkF at h
            split at h
            · cases h
            · split at h
              · rename_i he; cases h; exact cntF_err0 he
              · split at h
                · cases h; decide
                · split at h
                  · cases h
                  · cases h; decide
          · split at h
            · unfold arrF at h
              split at h
              · cases h
              · split at h
                · rename_i he; cases h; exact cntF_err0 he
                · split at h
                  · rename_i he; cases h; exact hD _ _ _ he
                  · cases h
            · cases h
theorem many_err0 {α : Type} {d : List UInt8 → Except Int (α × List UInt8)} (hd : ∀ r c, d r = .error c → c ≠ 0) : ∀ (m : Nat) (r : List UInt8) (c : Int), many d m r = .error c → c ≠ 0
  | 0, r, c, h => by cases h
  | m + 1, r, c, h => by
    unfold many at h
    split at h
    · rename_i he; cases h; exact hd _ _ he
    · split at h
      · rename_i he; cases h; exact many_err0 hd _ _ _ he
      · cases h
theorem dec_err0 : ∀ (n : Nat) (b : List UInt8) (c : Int), dec n b = .error c → c ≠ 0
  | 0, b, c, h => decW_err0 (fun _ _ _ h => by cases h; decide) b c h
  | n + 1, b, c, h => decW_err0 (fun m r c h => many_err0 (dec_err0 n) m r c h) b c h
theorem enc_three : ∀ (n : Nat) (t : T n), 3 ≤ (enc n t).length
  | 0, t => nomatch t
  | n + 1, t => by
    show 3 ≤ (encW (enc n) (kd t) (tx t) (nm t) (ls t)).length
    unfold encW crlf
    repeat' split
    all_goals simp
    all_goals omega
theorem well_list {α : Type} {k : Int} {s : ByteArray} {i : Int} {l : List α} (h : wellW k s i l = true) : l = [] ∨ k = 6 := by
  unfold wellW at h
  repeat' split at h
  all_goals first | exact .inr (by assumption) | (left; simp at h; simp [h]; done) | (simp at h; done)
theorem enc_list {n : Nat} {t : T (n + 1)} (h : kd t = 6) : (enc (n + 1) t).length ≥ 1 + ((ls t).flatMap (enc n)).length := by
  show (encW (enc n) (kd t) (tx t) (nm t) (ls t)).length ≥ _
  rw [h]
  unfold encW
  rw [if_neg (by decide), if_neg (by decide), if_neg (by decide), if_neg (by decide), if_neg (by decide), if_neg (by decide)]
  simp only [List.length_cons, List.length_append]
  omega
theorem sum_le {α : Type} {f : α → Nat} {g : α → List UInt8} : ∀ (l : List α), (∀ x ∈ l, f x ≤ (g x).length) → (l.map f).sum ≤ (l.flatMap g).length
  | [], _ => by simp
  | x :: l, h => by
    have h1 := h x (by simp)
    have h2 := sum_le l (fun y hy => h y (by simp [hy]))
    rw [List.map_cons, List.sum_cons, List.flatMap_cons, List.length_append]
    omega
theorem cnt_le : ∀ (n : Nat) (t : T n), right n t = true → cnt n t ≤ (enc n t).length
  | 0, t, _ => nomatch t
  | n + 1, t, h => by
    have h' : (wellW (kd t) (tx t) (nm t) (ls t) && (ls t).all (right n)) = true := h
    rw [Bool.and_eq_true] at h'
    have h3 := enc_three (n + 1) t
    show 1 + ((ls t).map (cnt n)).sum ≤ _
    rcases well_list h'.1 with e | e
    · rw [e]
      simp
      omega
    · have h4 := enc_list e
      have h5 := sum_le (f := cnt n) (g := enc n) (ls t) (fun x hx => cnt_le n x (List.all_eq_true.1 h'.2 x hx))
      omega
end Rp
end Go.Proofs.YtoalnfkjpdgbiaaDoor
