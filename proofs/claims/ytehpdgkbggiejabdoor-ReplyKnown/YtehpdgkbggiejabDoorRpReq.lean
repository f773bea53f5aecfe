/-
  Contracts over this program: Request and Bulks of any texts.
-/
import Derived.Test.YtehpdgkbggiejabDoorRpErrC
import Derived.Test.YtehpdgkbggiejabDoorRpEnc
import Derived.Test.YtehpdgkbggiejabDoorRpErr
import Derived.Laws.MakeOwn
namespace Go.Proofs.YtehpdgkbggiejabDoor
open Go.RowKit
set_option linter.unusedVariables false
/-- texts that came in -/
def Txs (w : World) (so : Option Addr) (S : List ByteArray) : Prop :=
  ∀ j (h : j < S.length), ∃ a, so = some a ∧ a.block < w.heap.size ∧ S[j].size ≤ 1048576 ∧ w.cell? (a.add j) = some (.string S[j])
theorem ad_block (a : Addr) (j : Nat) : (a.add j).block = a.block := by unfold Addr.add; split <;> rfl
theorem Txs.bel {w w' : World} {so : Option Addr} {S : List ByteArray} (h : Txs w so S) (hb : Below w.heap.size w w') : Txs w' so S := fun j hj => by
  obtain ⟨a, q1, q2, q3, q4⟩ := h j hj
  exact ⟨a, q1, Nat.lt_of_lt_of_le q2 hb.size, q3, (hb.cell (by rw [ad_block]; exact q2)).trans q4⟩
/-- a reply of bytes -/
def bkR (n : Nat) (s : ByteArray) : Rp.T (n + 1) := Rp.mk 4 s 0 []
/-- a command as it is sent -/
def rqR (S : List ByteArray) : Rp.T 2 := Rp.mk 6 .empty 0 (S.map (bkR 0))
theorem rq_enc (S : List ByteArray) : Rp.enc 2 (rqR S) = 42 :: (Lib.itoa (S.length : Int) ++ Rp.crlf ++ S.flatMap fun s => Rp.enc 1 (bkR 0 s)) := by
  show 42 :: (Lib.itoa ((S.map (bkR 0)).length : Int) ++ Rp.crlf ++ (S.map (bkR 0)).flatMap (Rp.enc 1)) = _
  rw [List.length_map, List.flatMap_map]
theorem bk_right (n : Nat) (s : ByteArray) : Rp.right (n + 1) (bkR n s) = true := by
  show (Rp.wellW 4 s 0 ([] : List (Rp.T n)) && ([] : List (Rp.T n)).all (Rp.right n)) = true
  rfl
theorem rq_right (S : List ByteArray) : Rp.right 2 (rqR S) = true := by
  show (Rp.wellW 6 .empty 0 (S.map (bkR 0)) && (S.map (bkR 0)).all (Rp.right 1)) = true
  rw [List.all_eq_true.2 (fun u hu => by obtain ⟨s, _, rfl⟩ := List.mem_map.1 hu; exact bk_right 0 s)]
  rfl
theorem rq_verd (S : List ByteArray) : verd 2 (rqR S) = 0 := by
  unfold verd
  rw [rq_right, if_pos rfl, if_neg]
  rw [Bool.not_eq_true]
  show (((6 : Int) == 6 && 8 == 0) || (S.map (bkR 0)).any (Rp.deep 1 (8 - 1))) = false
  rw [List.any_eq_false.2 (fun u hu => by obtain ⟨s, _, rfl⟩ := List.mem_map.1 hu; rw [Bool.not_eq_true]; rfl)]
  rfl
theorem kb_one (w : World) (x : UInt8) : Kb (w.alloc (.cells #[.int .u8 (x.toNat : Int)] 5)) (.slice (some ⟨w.heap.size, 0, none⟩) 1 1) [x] :=
  ⟨rfl, .inr ⟨w.heap.size, 1, _, rfl, Nat.zero_le _, heap_alloc_new _ _, Nat.le_refl _, by decide, rfl, rfl⟩⟩
set_option maxRecDepth 100000 in
set_option maxHeartbeats 4000000 in
theorem request_any (so : Option Addr) (cap : Nat) (S : List ByteArray) (w : World) (hT : Txs w so S) (ht : Tab w) (hl : (Rp.enc 2 (rqR S)).length ≤ 16777216) :
    Calls Tryd.prog 14 #[.slice so S.length cap] w fun e w' => (∃ ao m c, e = .returned (.slice ao m c) ∧ Nb w w' (.slice ao m c) (Rp.enc 2 (rqR S))) ∧ Below w.heap.size w w' := by
  rw [rq_enc] at hl ⊢
  have hS : S.length ≤ 16777216 := by
    have h2 : S.length ≤ (S.flatMap fun s => Rp.enc 1 (bkR 0 s)).length := by
      clear hT hl
      induction S with
      | nil => simp
      | cons s S ih =>
        rw [List.flatMap_cons, List.length_append, List.length_cons]
        have := Rp.enc_three 1 (bkR 0 s)
        omega
    rw [List.length_cons, List.length_append] at hl
    omega
  have HT := keep hT
  have HTB := keep ht
  have HL := keep hl
  obtain ⟨n, hn⟩ : ∃ n, S.length = n := ⟨_, rfl⟩
  rw [hn] at hS HL ⊢
  have HN := keep hn
  have HS := keep hS
  obtain ⟨Z, hZ⟩ : ∃ Z, Z = 42 :: (Lib.itoa (n : Int) ++ Rp.crlf ++ S.flatMap fun s => Rp.enc 1 (bkR 0 s)) := ⟨_, rfl⟩
  rw [← hZ]
  have HZ := keep hZ
  clear hZ
  obtain ⟨W1, hW1⟩ : ∃ x, x = w.alloc (.cells #[.int .u8 42] 5) := ⟨_, rfl⟩
  have b1 : Below w.heap.size w W1 := hW1 ▸ (Below.refl _ _).alloc (Nat.le_refl _) _
  have K1 := keep (show Kb W1 (.slice (some ⟨w.heap.size, 0, none⟩) 1 1) [42] from hW1 ▸ kb_one w 42)
  have B1 := keep b1
  have TX := keep (text_any (n : Int) W1 (by omega) (by omega) (tab_below ht b1 (tab_lt ht)))
  have hW1' : w.alloc (.cells #[.int .u8 ((((⟨#[43, 45, 58, 36, 36, 42, 42]⟩ : ByteArray)[5]'(by decide)).toNat : Nat) : Int)] 5) = W1 := hW1.symm
  have n63 : IntKind.i64.wrap (n : Int) = (n : Int) := by rw [IntKind.wrap_i64]; omega
  clear hT ht hl hn hS hW1 b1
  go_enter Tryd.func14, Tryd.ntmps14
  go_wp2_with fail
  refine TX.out.mono ?_
  rintro e w2 ⟨rfl, b2⟩
  have B2 := keep (B1.out.trans (b2.mono B1.out.size))
  have PL := keep (putLine_any (Rp.ofL (Lib.itoa (n : Int))) w2 (K1.out.later b2) (by rw [Rp.ofL_size]; have := HL.out; simp only [List.length_cons, List.length_append, List.length_nil] at *; omega))
  clear b2 TX
  go_wp2_with fail
  refine PL.out.mono ?_
  rintro e w3 ⟨ao3, n3, c3, rfl, k3, g3⟩
  have hd3 : [42] ++ Rp.bytesOf (Rp.ofL (Lib.itoa (n : Int))) ++ Rp.crlf = 42 :: (Lib.itoa (n : Int) ++ Rp.crlf) := by rw [Rp.ofL_bytes]; simp
  rw [hd3] at k3
  have own3 : ∀ k, (Value.slice ao3 n3 c3).ownBlock = some k → w.heap.size ≤ k := fun k hk => by
    rcases g3.2 k hk with e | e
    · have e' : some w.heap.size = some k := e
      injection e' with e'
      omega
    · exact Nat.le_trans B2.out.size e
  have B3 := keep (B2.out.trans (g3.below B2.out.size (fun k hk => by have e' : some w.heap.size = some k := hk; injection e' with e'; omega)))
  obtain ⟨H0, hH0⟩ : ∃ H0, H0 = 42 :: (Lib.itoa (n : Int) ++ Rp.crlf) := ⟨_, rfl⟩
  rw [← hH0] at k3
  have HL2 : Kept (H0.length + (S.flatMap fun s => Rp.enc 1 (bkR 0 s)).length ≤ 16777216) := keep (by
    have := HL.out
    rw [hH0]
    simp only [List.length_cons, List.length_append] at *
    omega)
  have HE : Kept (Z = H0 ++ S.flatMap fun s => Rp.enc 1 (bkR 0 s)) := keep (by rw [HZ.out, hH0]; simp)
  have K3 := keep k3
  have O3 := keep own3
  clear hd3 k3 g3 own3 hH0 PL HL
  go_wp2
  go_loopw [15, 3] (fun j v wr => ∃ (jj : Nat) (ao : Option Addr) (q c : Nat), j = .int .i64 (jj : Int) ∧ v = .slice ao q c ∧ jj ≤ n ∧ Kept (Kb wr (.slice ao q c) (H0 ++ (S.take jj).flatMap fun s => Rp.enc 1 (bkR 0 s))) ∧ Kept (∀ k, (Value.slice ao q c).ownBlock = some k → w.heap.size ≤ k) ∧ Kept (Below w.heap.size w wr)) (fun j _ _ => n - (intOf j).toNat)
  case atStart => exact ⟨0, ao3, n3, c3, rfl, rfl, Nat.zero_le _, keep (by simpa using K3.out), O3, B3⟩
  case round =>
    obtain ⟨jj, ao, q, c, rfl, rfl, hj, KW, OW, BW⟩ := hrel
    by_cases hlt : jj < n
    · have h0 : (0 : Int) ≤ (jj : Int) := by omega
      have h1 : (jj : Int) < (n : Int) := by omega
      have nw : IntKind.i64.wrap ((jj : Int) + 1) = ((jj + 1 : Nat) : Int) := by have := HS.out; rw [IntKind.wrap_i64]; omega
      have hjS : jj < S.length := by rw [HN.out]; exact hlt
      obtain ⟨a, rfl, hab, hsz, hc0⟩ := HT.out jj hjS
      obtain ⟨s, hs⟩ : ∃ s, S[jj]'hjS = s := ⟨_, rfl⟩
      have hs2 : S[jj]? = some s := by rw [List.getElem?_eq_getElem hjS, hs]
      rw [hs] at hc0 hsz
      have c0 := (BW.out.cell (by rw [ad_block]; exact hab)).trans hc0
      have HX := keep hs2
      have HLT := keep hlt
      have HSZ := keep hsz
      clear hs hs2 hc0 hab hsz hlt hjS
      go_wp2_with fail
      refine (bulk1_any s _).mono ?_
      rintro e w4 ⟨rfl, b4⟩
      have B4 := keep (BW.out.trans (b4.mono BW.out.size))
      have PU := keep (put_any 1 (bkR 0 s) [.int .i64 4, .string s, .int .i64 0, .slice none 0 0] (.slice ao q c) _ w4 ⟨_, rfl, .inl ⟨rfl, _, rfl⟩, ⟨by show (-9223372036854775808 : Int) ≤ 4; decide, by show (4 : Int) ≤ 9223372036854775807; decide⟩, ⟨by show (-9223372036854775808 : Int) ≤ 0; decide, by show (0 : Int) ≤ 9223372036854775807; decide⟩, by show s.size < 4294967281; have := HSZ.out; omega⟩ (bk_right 0 s) (KW.out.later b4)
        (tab_below HTB.out B4.out (tab_lt HTB.out)) ⟨Nat.lt_of_lt_of_le (tab_lt HTB.out) B4.out.size, fun e => by have := OW.out _ e; have := tab_lt HTB.out; omega⟩ (by
          have h1 := flat_le (fun s => Rp.enc 1 (bkR 0 s)) S (jj + 1)
          rw [take_flat _ HX.out, List.length_append] at h1
          have h2 := HL2.out
          rw [List.length_append]
          omega))
      clear b4
      go_wp2_with fail
      refine PU.out.mono ?_
      rintro e w5 ⟨ao5, n5, c5, rfl, k5, g5⟩
      have B5 := keep (B4.out.trans (g5.below B4.out.size OW.out))
      have K5 : Kept (Kb w5 (.slice ao5 n5 c5) (H0 ++ (S.take (jj + 1)).flatMap fun s => Rp.enc 1 (bkR 0 s))) := keep (by
        rw [take_flat _ HX.out, ← List.append_assoc]
        exact k5)
      have O5 : Kept (∀ k, (Value.slice ao5 n5 c5).ownBlock = some k → w.heap.size ≤ k) := keep (fun k hk => by
        rcases g5.2 k hk with e | e
        · exact OW.out k e
        · exact Nat.le_trans B4.out.size e)
      clear k5 g5 PU
      go_wp2
      go_roundw
      case measure => have := HLT.out; simp [intOf]; omega
      case rel => exact ⟨jj + 1, ao5, n5, c5, by rfl, rfl, HLT.out, K5, O5, B5⟩
    · have h1 : ¬ (jj : Int) < (n : Int) := by omega
      obtain rfl : jj = n := by omega
      have KF : Kept (Kb wr (.slice ao q c) (H0 ++ S.flatMap fun s => Rp.enc 1 (bkR 0 s))) := keep (by
        have h2 := KW.out
        rw [List.take_of_length_le (by rw [HN.out]; exact Nat.le_refl _)] at h2
        exact h2)
      go_wp2
      go_ret
      rw [HE.out]
      exact ⟨⟨_, _, _, rfl, KF.out, OW.out⟩, BW.out⟩
end Go.Proofs.YtehpdgkbggiejabDoor
