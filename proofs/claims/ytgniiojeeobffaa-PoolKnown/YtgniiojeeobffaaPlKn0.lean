/-
  Laws for the closed statement: a region that draws its order ends in one way but for two slots; a pool beside three candidates.
-/
import Derived.Test.YtgniiojeeobffaaPlRise0
namespace Go.Proofs.Ytgniiojeeobffaa
open Go.RowKit Go.Shelf
set_option linter.unusedVariables false
set_option linter.unusedSimpArgs false
set_option maxRecDepth 100000
def onlyN (R : Act → World → Prop) : Exit → Act → World → Prop
  | .normal, a, w => R a w
  | _, _, _ => False
/-- all orders end alike but for two slots -/
theorem code_two {P : Program} {c : Code} {Q : Exit → Act → World → Prop} {a : Act} {w : World} (f : Act → Value → Value → Act) (G : World → Prop) (h : c.wp P (onlyN (fun a' w' => ∃ u v, a' = f a u v ∧ G w')) a w) (hR : ∀ u v w', G w' → Q .normal (f a u v) w') : c.wp P Q a w :=
  Code.wp_mono (fun e a' w' h => by
    cases e
    case normal => obtain ⟨u, v, rfl, hg⟩ := h; exact hR u v w' hg
    all_goals exact (h : False).elim) h
theorem px_offer {W w : World} {X : List (Nat × Obj)} {b m : Nat} {v : Value} {l l' : List Ent} {r : Bool} (h : PX W X w b v m l) (c : Ent) (hg : Good l) (hl : l.length ≤ m) (hm : m ≤ 16) (hL : offL m c l = l' ∧ offB m c l = r) :
    Calls Try.prog 15 #[.pointer (some ⟨b, 0, none⟩), .agg #[.string c.1, .int .u64 c.2]] w fun e w' => e = .returned (.bool r) ∧ ∃ v', PX W X w' b v' m l' := by
  have := offer_any w b m v l c h.pl hg hl hm
  rw [hL.1, hL.2] at this
  exact this.mono fun e w' hd => h.did hd
theorem px_take {W w : World} {X : List (Nat × Obj)} {b m : Nat} {v : Value} {l : List Ent} (h : PX W X w b v m l) (hl : l.length ≤ 100000) :
    Calls Try.prog 13 #[.pointer (some ⟨b, 0, none⟩)] w fun e w' => e = .returned (fstV l) ∧ ∃ v', PX W X w' b v' m l.tail :=
  (take_any w b m v l h.pl hl).mono fun e w' hd => h.did hd
theorem px_cands {W w : World} {X : List (Nat × Obj)} {b m : Nat} {v : Value} {l : List Ent} (h : PX W X w b v m l) (hl : l.length ≤ 100000) :
    Calls Try.prog 17 #[.pointer (some ⟨b, 0, none⟩)] w fun e w' => ∃ u Y, e = .returned u ∧ PX W (Y ++ X) w' b v m l ∧ Rides (Y ++ X) u l :=
  (cands_any w b m v l h.pl hl).mono fun e w' hc => h.copy hc
def ob (c : Ent) : Obj := .cells #[.string c.1, .int .u64 c.2] 32 (0, 0)
def ob2 (p q : Ent) : Obj := .cells #[.string p.1, .int .u64 p.2, .string q.1, .int .u64 q.2] 32 (0, 0)
def X3 (A B C : Nat) (a b c : Ent) : List (Nat × Obj) := [(A, ob a), (B, ob b), (C, ob c)]
/-- the six cells -/
def K3 (A B C : Nat) (a b c : Ent) (w : World) : Prop := (w.cell? ⟨A, 0, none⟩ = some (.string a.1) ∧ w.cell? ⟨A, 1, none⟩ = some (.int .u64 a.2)) ∧ (w.cell? ⟨B, 0, none⟩ = some (.string b.1) ∧ w.cell? ⟨B, 1, none⟩ = some (.int .u64 b.2)) ∧ w.cell? ⟨C, 0, none⟩ = some (.string c.1) ∧ w.cell? ⟨C, 1, none⟩ = some (.int .u64 c.2)
theorem PX.k3 {W w : World} {X : List (Nat × Obj)} {p m : Nat} {v : Value} {l : List Ent} {A B C : Nat} {a b c : Ent} (h : PX W X w p v m l) (hs : ∀ q ∈ X3 A B C a b c, q ∈ X) : K3 A B C a b c w := by
  have h1 := (h.side _ (hs (A, ob a) (by simp [X3]))).1
  have h2 := (h.side _ (hs (B, ob b) (by simp [X3]))).1
  have h3 := (h.side _ (hs (C, ob c) (by simp [X3]))).1
  exact ⟨⟨(cells_two h1).1, (cells_two h1).2.1⟩, ⟨(cells_two h2).1, (cells_two h2).2.1⟩, (cells_two h3).1, (cells_two h3).2.1⟩
theorem rides_two {X : List (Nat × Obj)} {G : Nat} {p q : Ent} (h : (G, ob2 p q) ∈ X) : Rides X (.slice (some ⟨G, 0, none⟩) 2 2) [p, q] := fun w hX =>
  own_of (hX _ h) (Nat.le_refl _) (by unfold maxLen; omega) rfl rfl rfl
theorem Rides.more {X Y : List (Nat × Obj)} {u : Value} {l : List Ent} (h : Rides X u l) (hs : ∀ p ∈ X, p ∈ Y) : Rides Y u l := fun w hw => h w (fun p hp => hw p (hs p hp))
/-- one candidate has another rank -/
theorem PX.side_set {W w : World} {X Y : List (Nat × Obj)} {b m B : Nat} {v : Value} {l : List Ent} {c : Ent} {r : Int} (h : PX W X w b v m l) (hB : (B, ob c) ∈ X) (hW : W.heap.size ≤ B) (hY : ∀ p ∈ Y, p = (B, ob (c.1, r)) ∨ (p ∈ X ∧ p.1 ≠ B)) : PX W Y (w.setCell ⟨B, 1, none⟩ (.int .u64 r)) b v m l := by
  obtain ⟨g, hn⟩ := h.side _ hB
  dsimp only at g hn
  have kk : ∀ k, k ≠ B → (w.setCell ⟨B, 1, none⟩ (.int .u64 r)).heap[k]? = w.heap[k]? := fun k hk => Below.heap_setCell _ _ _ _ hk
  refine ⟨h.pl.kept (fun k hk => kk k (fun e => hn (by rw [← e]; exact hk))), h.bel.setCell hW _, h.new, fun p hp => ?_⟩
  rcases hY p hp with rfl | ⟨h1, h2⟩
  · exact ⟨cells_set g, hn⟩
  · exact ⟨(kk _ h2).trans (h.side p h1).1, (h.side p h1).2⟩
abbrev ca : ByteArray := ⟨#[97]⟩
abbrev cb : ByteArray := ⟨#[98]⟩
abbrev cc : ByteArray := ⟨#[99]⟩
theorem lt1 : ([97] : List UInt8) < [98] := by decide
theorem lt2 : ¬ ([98] : List UInt8) < [97] := by decide
theorem lt3 : ([97] : List UInt8) ≤ [98] := by decide
theorem lt4 : ¬ ([98] : List UInt8) ≤ [97] := by decide
theorem kn1 : offL 2 (ca, 5) [] = [(ca, 5)] ∧ offB 2 (ca, 5) [] = true := by simp [offL, offB, put, del, isK, snr, tls_is, eqE, tl_lit]
theorem kn2 : offL 2 (cb, 3) [(ca, 5)] = [(cb, 3), (ca, 5)] ∧ offB 2 (cb, 3) [(ca, 5)] = true := by simp [offL, offB, put, del, isK, snr, tls_is, eqE, tl_lit]
theorem kn3 : offL 2 (cc, 9) [(cb, 3), (ca, 5)] = [(cb, 3), (ca, 5)] ∧ offB 2 (cc, 9) [(cb, 3), (ca, 5)] = false := by simp [offL, offB, put, del, isK, snr, tls_is, eqE, tl_lit]
theorem kn4 : offL 2 (cc, 4) [(cb, 3), (ca, 5)] = [(cb, 3), (cc, 4)] ∧ offB 2 (cc, 4) [(cb, 3), (ca, 5)] = true := by simp [offL, offB, put, del, isK, snr, tls_is, eqE, tl_lit]
theorem kn5 : offL 2 (cb, 7) [(cb, 3), (cc, 4)] = [(cc, 4), (cb, 7)] ∧ offB 2 (cb, 7) [(cb, 3), (cc, 4)] = true := by simp [offL, offB, put, del, isK, snr, tls_is, eqE, tl_lit]
theorem kn6 : offL 2 (ca, 7) [(cc, 4), (cb, 7)] = [(cc, 4), (ca, 7)] ∧ offB 2 (ca, 7) [(cc, 4), (cb, 7)] = true := by simp [List.filter_cons, lt1, lt2, lt3, lt4, offL, offB, put, del, isK, snr, tls_is, eqE, tl_lit]
theorem kn7 : offL 2 (cb, 7) [(cc, 4), (ca, 7)] = [(cc, 4), (ca, 7)] ∧ offB 2 (cb, 7) [(cc, 4), (ca, 7)] = false := by simp [List.filter_cons, lt1, lt2, lt3, lt4, offL, offB, put, del, isK, snr, tls_is, eqE, tl_lit]
theorem gd1 : Good [(cb, 3), (ca, 5)] := by constructor <;> simp [snr, tls_is, tl_lit]
theorem gd2 : Good [(cb, 3), (cc, 4)] := by constructor <;> simp [snr, tls_is, tl_lit]
theorem gd3 : Good [(cc, 4), (cb, 7)] := by constructor <;> simp [snr, tls_is, tl_lit]
theorem gd4 : Good [(cc, 4), (ca, 7)] := by constructor <;> simp [snr, tls_is, tl_lit]
end Go.Proofs.Ytgniiojeeobffaa
