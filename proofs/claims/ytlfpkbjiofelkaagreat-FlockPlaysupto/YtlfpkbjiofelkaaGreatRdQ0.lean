/-
  A flock beside the document's own: the statement's own look at all that is told of them (stands).
-/
import Derived.Test.YtlfpkbjiofelkaaGreatRdF4
import Derived.Test.YtlfpkbjiofelkaaGreatFlScan
import Derived.Test.YtlfpkbjiofelkaaGreatSameTexts
namespace Go.Proofs.YtlfpkbjiofelkaaGreat
open Go.RowKit Go.Shelf
set_option linter.unusedVariables false
set_option linter.unusedSimpArgs false
set_option maxRecDepth 100000
namespace Rd
section
variable {h : ByteArray → Nat} {N N' : Nat} {w w' w'' : World} {r r' q q' : Roles} {R R2 b b2 seed : Nat} {v v' : Value} {l l' L : List ByteArray} {s s' : Sf} {KV KV' : List (ByteArray × Int)}
theorem rise_nd (h : Rise l) : l.Nodup := by
  rw [List.nodup_iff_pairwise_ne]
  exact List.Pairwise.imp (fun {a b} hab e => by subst e; exact List.lt_irrefl _ hab) h
theorem mem_tab (hf : RF h N w r R b seed v l s KV) (x : ByteArray) : x ∈ l ↔ x ∈ kys s := (hf.2.2.mem_iff).trans (hf.1.1.2.2.2.1 x)
/-- the members that the program tells are the document's row -/
theorem srs_row (hf : RF h N w r R b seed v l s KV) (hs : Srs (kys s) L) : L = l :=
  srs_eq hs.2 hf.2.1 ((List.perm_ext_iff_of_nodup hs.nodup (rise_nd hf.2.1)).2 fun x => (hs.1.mem_iff).trans (mem_tab hf x).symm)
theorem row_perm (hr : Rec h N w r R b seed s) (hf : RF h N' w' q R2 b2 seed v l s KV) : l.Perm (kys s) := by
  refine (List.perm_ext_iff_of_nodup (rise_nd hf.2.1) ?_).2 (mem_tab hf)
  exact all_nodup hr.1.2.1
theorem cst_row (hr : Rec h N w r R b seed s) (hf : RF h N' w' q R2 b2 seed v l s KV) : cst (Dc.all s) = cstT l := by
  have h1 : cst (Dc.all s) = cstT (kys s) := by unfold cst cstT kys; rw [List.map_map]; rfl
  rw [h1]
  exact ((row_perm hr hf).map _).sum_nat.symm
theorem row_few (hr : Rec h N w r R b seed s) (hf : RF h N' w' q R2 b2 seed v l s KV) : l.length ≤ 1048576 ∧ ∀ x ∈ l, x.size ≤ 1048576 := by
  refine ⟨by rw [← ln_len hf]; exact hr.2.1.2, fun x hx => ?_⟩
  have h1 := lk_mem hf x
  rw [isin_iff.2 hx] at h1
  obtain ⟨y, hy⟩ := Option.isSome_iff_exists.1 h1
  exact hr.2.1.1 x y hy
theorem tx_ks {B : Nat} {u : Value} (h : Ks B w u l) : Tx w u l := h.more (Nat.zero_le _)
theorem ks_kept {B : Nat} {u : Value} (h : Ks B w u l) (hk : ∀ k, u.ownBlock = some k → w'.heap[k]? = w.heap[k]?) : Ks B w' u l := own_kept h hk
theorem ks_bel {B : Nat} {u : Value} (h : Ks B w u l) (hb : Below w.heap.size w w') : Ks B w' u l := ks_kept h (fun k hk => hb.block k (own_lt h hk))
theorem fu_ks {B : Nat} {a u : Value} (h : Ks B w u l) (hF : FU a w w') (hd : ∀ k, a.ownBlock = some k → k < B) : Ks B w' u l :=
  ks_kept h (fun k hk => hF.2.2 k (own_lt h hk) (fun e => by have := hd k e; have := (World.ownsRow.lt h k hk).1; omega))
end
set_option maxHeartbeats 4000000 in
theorem stands_any {h : ByteArray → Nat} {N : Nat} {w : World} {O : Nat → Prop} {R R2 seed : Nat} {l : List ByteArray} {s : Sf} (hp : Pf h N w O R R2 seed l s) (hN : N ≤ 2600000000000) :
    Calls Tryz.prog 10 #[.pointer (some ⟨R, 0, none⟩), .pointer (some ⟨R2, 0, none⟩)] w fun e w' => e = .returned (.bool true) ∧ Below w.heap.size w w' := by
  obtain ⟨r, b, q, b2, v, KV, hr, hf, ha, _⟩ := hp.ex
  obtain ⟨f1, f2⟩ := row_few hr hf
  have MA := keep (fun (W : World) (hb : Below w.heap.size w W) => fmembers_any W r R b s (hr.below hb) hN)
  have MR := keep (fun (W : World) (hb : Below w.heap.size w W) => rfmembers_any (hf.below hb).1 (by omega))
  have ML := keep (fun (W : World) (hb : Below w.heap.size w W) => rlen_any (hr.below hb))
  have MLR := keep (fun (W : World) (hb : Below w.heap.size w W) => rflen_any (hf.below hb).1)
  have MC := keep (fun (W : World) (hb : Below w.heap.size w W) => rcost_any (hr.below hb))
  have MCR := keep (fun (W : World) (hb : Below w.heap.size w W) => rfcost_any (hf.below hb).1 f1 f2)
  have HS := keep (fun (L : List ByteArray) (hs : Srs (kys s) L) => srs_row hf hs)
  rw [ln_len hf] at ML
  rw [cst_row hr hf] at MC
  have HF := keep f1
  generalize cstT l = cc at *
  clear hr hf ha f1 f2 hp hN
  go_enter Tryz.func10, Tryz.ntmps10
  go_wp2_with fail
  refine (MA.out w (Below.refl _ _)).mono ?_
  rintro _ w1 ⟨v1, L1, rfl, s1, ⟨g1, rfl, p1⟩, b1⟩
  obtain rfl := HS.out _ s1
  have K1 : Kept (Ks w.heap.size w1 (.slice (some ⟨g1, 0, none⟩) L1.length L1.length) L1) := p1
  have B1 := keep b1
  clear s1 p1 b1
  go_wp2_with fail
  refine (MA.out w1 B1.out).mono ?_
  rintro _ w2 ⟨v2, L2, rfl, s2, ⟨g2, rfl, p2⟩, b2⟩
  obtain rfl := HS.out _ s2
  have K2 : Kept (Ks w1.heap.size w2 (.slice (some ⟨g2, 0, none⟩) L2.length L2.length) L2) := p2
  have B2 := keep (bup B1.out b2)
  have K1' := keep (ks_bel K1.out b2)
  have G1 := keep (own_lt K1.out (k := g1) rfl)
  clear s2 p2 b2 K1
  go_wp2_with fail
  refine (MR.out w2 B2.out).mono ?_
  rintro _ w3 ⟨v3, rfl, m3⟩
  obtain ⟨o3, n3, c3, rfl⟩ := mine_slice m3
  have K3 : Kept (Ks w2.heap.size w3 (.slice o3 n3 c3) L2) := by
    have := m3.1
    exact ⟨this.1, this.2.imp id (fun ⟨g, cap, cur, e, f1, f2⟩ => ⟨g, cap, cur, e, m3.2.1 g (by rw [e]; rfl), f2⟩)⟩
  have B3 := keep (bup B2.out m3.2.2)
  have K1b := keep (ks_bel K1'.out m3.2.2)
  have K2b := keep (ks_bel K2.out m3.2.2)
  have S12 := keep (show w1.heap.size ≤ w2.heap.size from by
    have := own_lt K2.out (k := g2) rfl
    have h2 := (World.ownsRow.lt K2.out g2 rfl).1
    omega)
  clear m3 K1' K2
  generalize hn : L2.length = n at *
  go_wp2_with fail
  refine (ML.out w3 B3.out).mono ?_
  rintro _ w4 ⟨rfl, rfl⟩
  go_wp2_with fail
  refine (MLR.out w4 B3.out).mono ?_
  rintro _ w5 ⟨rfl, rfl⟩
  go_wp2_with fail
  refine (MC.out w5 B3.out).mono ?_
  rintro _ w6 ⟨rfl, rfl⟩
  go_wp2_with fail
  refine (MCR.out w6 B3.out).mono ?_
  rintro _ w7 ⟨rfl, b7⟩
  have B7 := keep (bup B3.out b7)
  have K1c := keep (ks_bel K1b.out b7)
  have K2c := keep (ks_bel K2b.out b7)
  have K3c := keep (ks_bel K3.out b7)
  clear b7 K1b K2b K3 ML MLR MC MCR MR
  go_wp2_with fail
  refine (same_any w7 _ _ _ _ L2 K1c.out K3c.out).mono ?_
  rintro _ w8 ⟨rfl, b8⟩
  have B8 := keep (bup B7.out b8)
  have K1d := keep (ks_bel K1c.out b8)
  have K2d := keep (ks_bel K2c.out b8)
  have K3d := keep (ks_bel K3c.out b8)
  clear b8 K1c K2c K3c
  go_wp2_with fail
  refine (same_any w8 _ _ _ _ L2 K2d.out K3d.out).mono ?_
  rintro _ w9 ⟨rfl, b9⟩
  have B9 := keep (bup B8.out b9)
  have K1e := keep (ks_bel K1d.out b9)
  have K2e := keep (ks_bel K2d.out b9)
  have K3e := keep (ks_bel K3d.out b9)
  clear b9 K1d K2d K3d
  go_wp2_with fail
  refine (spoil_any w9 _ L2 (tx_ks K1e.out) (by have := HF.out; omega)).mono ?_
  rintro _ w10 ⟨rfl, f10⟩
  have B10 := keep (f10.bel B9.out (fun k hk => (World.ownsRow.lt K1e.out k hk).1))
  have K2f := keep (fu_ks K2e.out f10 (fun k hk => by cases hk; exact G1.out))
  have K3f := keep (fu_ks K3e.out f10 (fun k hk => by cases hk; have := G1.out; have := S12.out; show g1 < w2.heap.size; omega))
  clear f10 K1e K2e K3e
  go_wp2_with fail
  refine (same_any w10 _ _ _ _ L2 K2f.out K3f.out).mono ?_
  rintro _ w11 ⟨rfl, b11⟩
  have B11 := keep (bup B10.out b11)
  have K3g := keep (ks_bel K3f.out b11)
  clear b11 K2f K3f
  go_wp2_with fail
  refine (MA.out w11 B11.out).mono ?_
  rintro _ w12 ⟨v12, L3, rfl, s12, ⟨g12, e12, p12⟩, b12⟩
  obtain rfl := HS.out _ s12
  rw [hn] at e12
  subst e12
  have K12 : Kept (Ks w11.heap.size w12 (.slice (some ⟨g12, 0, none⟩) n n) L3) := p12
  have B12 := keep (bup B11.out b12)
  have K3h := keep (ks_bel K3g.out b12)
  clear s12 p12 b12 K3g
  go_wp2_with fail
  refine (same_any w12 _ _ _ _ L3 K12.out K3h.out).mono ?_
  rintro _ w13 ⟨rfl, b13⟩
  have B13 := keep (bup B12.out b13)
  clear b13 K12 K3h
  go_wp2
  go_ret
  exact ⟨rfl, B13.out⟩
end Rd
end Go.Proofs.YtlfpkbjiofelkaaGreat
