/-
  Rows that the statement lays anew with room behind them: of replies and of texts.
-/
import Derived.Test.YtoalnfkjpdgbiaaDoorRpMake
import Derived.Lib.SplitLaws
import Derived.Test.YtoalnfkjpdgbiaaDoorRpEnc
import Derived.Test.YtoalnfkjpdgbiaaDoorRpErr
import Derived.Laws.MakeOwn
import Derived.Test.YtoalnfkjpdgbiaaDoorRmArr
/-
  Contracts over this program: Error of any text.
-/
namespace Go.Proofs.YtoalnfkjpdgbiaaDoor
open Go.RowKit
set_option linter.unusedVariables false
theorem rep_ne (c d x : UInt8) (k : Nat) (l : List UInt8) (h : x ≠ c) : Lib.replaceK [c] [d] k (x :: l) = x :: Lib.replaceK [c] [d] k l := by
  cases k with
  | zero => rfl
  | succ k =>
    have hx : (x == c) = false := by simpa using h
    have e : Lib.indexByte (x :: l) c = if Lib.indexByte l c == -1 then -1 else Lib.indexByte l c + 1 := by
      show (if (x == c) = true then (0 : Int) else _) = _
      rw [hx]; rfl
    unfold Lib.replaceK
    rw [Lib.index_one, Lib.index_one, e]
    by_cases hm : Lib.indexByte l c = -1
    · rw [hm]; rfl
    · have hge := Lib.indexByte_ge l c
      have hb : (Lib.indexByte l c == -1) = false := by simpa using hm
      have h2 : (Lib.indexByte l c + 1 == -1) = false := by
        have : ¬ Lib.indexByte l c + 1 = -1 := by omega
        simpa using this
      rw [hb]
      simp only [Bool.false_eq_true, if_false, h2]
      rw [show (Lib.indexByte l c + 1).toNat = (Lib.indexByte l c).toNat + 1 by omega]
      simp
theorem rep_eq (c d : UInt8) (k : Nat) (l : List UInt8) : Lib.replaceK [c] [d] (k + 1) (c :: l) = d :: Lib.replaceK [c] [d] k l := by
  have e : Lib.indexByte (c :: l) c = 0 := by
    show (if (c == c) = true then (0 : Int) else _) = _
    simp
  rw [Lib.replaceK, Lib.index_one, e]
  rfl
theorem rep_map (c d : UInt8) : ∀ (l : List UInt8), Lib.replaceK [c] [d] (l.count c) l = l.map fun x => if x = c then d else x
  | [] => rfl
  | x :: l => by
    by_cases h : x = c
    · subst h
      rw [List.count_cons_self, rep_eq, rep_map x d l, List.map_cons, if_pos rfl]
    · rw [List.count_cons_of_ne (by simpa using h), rep_ne c d x _ l h, rep_map c d l, List.map_cons, if_neg h]
theorem rep_all (c d : UInt8) (h : c ≠ d) (l : List UInt8) : Lib.replaceAll l [c] [d] = l.map fun x => if x = c then d else x := by
  have hb : ([c] == [d]) = false := by simpa using h
  unfold Lib.replaceAll Lib.replace Lib.replaceNum
  rw [hb, if_neg (by decide), if_pos (.inl (by decide)), Lib.count_one, rep_map]
/-- what Error makes of a text -/
def errT (s : ByteArray) : ByteArray := Rp.ofL (((Rp.bytesOf s).map fun x => if x = 13 then 32 else x).map fun x => if x = 10 then 32 else x)
theorem errT_size (s : ByteArray) : (errT s).size = s.size := by
  unfold errT
  rw [Rp.ofL_size, List.length_map, List.length_map, Rp.bytes_len]
theorem errT_clean (s : ByteArray) : Rp.clean (Rp.bytesOf (errT s)) = true := by
  unfold errT Rp.clean
  rw [Rp.ofL_bytes, List.all_eq_true]
  intro c hc
  obtain ⟨x, hx, rfl⟩ := List.mem_map.1 hc
  obtain ⟨y, hy, rfl⟩ := List.mem_map.1 hx
  by_cases h : y = 13
  · rw [if_pos h, if_neg (by decide)]; decide
  · rw [if_neg h]
    by_cases h1 : y = 10
    · rw [if_pos h1]; decide
    · rw [if_neg h1]
      simp [h, h1]
theorem repl_any (s : ByteArray) (c : UInt8) (w : World) (hv : Vars w) (hs : s.size < 4294967281) (hc : c ≠ 32) :
    Calls Tryd.prog 48 #[.string s, .string ⟨#[c]⟩, .string ⟨#[32]⟩] w fun e w' => e = .returned (.string (Rp.ofL ((Rp.bytesOf s).map fun x => if x = c then 32 else x))) ∧ Below w.heap.size w w' := by
  obtain ⟨m, hm⟩ := hv.2
  have h := Any.strings_ReplaceAll { Tryd.laysM155 with } Tryd.Builder_Extra_M155 s ⟨#[c]⟩ ⟨#[32]⟩ m w hs hm (by show 1 ≤ 1; omega) (by
    have := Lib.countB_le ⟨#[c]⟩ (by show 1 ≤ 1; omega) s.size s (Nat.le_refl _)
    show s.size + Lib.countB s ⟨#[c]⟩ * 1 ≤ _
    omega)
  refine Calls.mono h fun e w' ⟨he, hb⟩ => ⟨?_, hb⟩
  rw [he]
  show Ending.returned (.string (Rp.ofL (Lib.replaceAll (Rp.bytesOf s) [c] [32]))) = _
  rw [rep_all c 32 hc]
set_option maxHeartbeats 1000000 in
theorem error_any (s : ByteArray) (w : World) (hv : Vars w) (hs : s.size < 4294967281) :
    Calls Tryd.prog 25 #[.string s] w fun e w' => e = .returned (.agg #[.int .i64 2, .string (errT s), .int .i64 0, .slice none 0 0]) ∧ Below w.heap.size w w' := by
  obtain ⟨W1, hW1, X1, B1⟩ := rep_pre w
  have R1 := keep (repl_any s 13 W1 (hv.below B1.out) hs (by decide))
  have R2 := keep (fun w' (hb : Below w.heap.size w w') => repl_any (Rp.ofL ((Rp.bytesOf s).map fun x => if x = 13 then 32 else x)) 10 w' (hv.below hb) (by rw [Rp.ofL_size, List.length_map, Rp.bytes_len]; exact hs) (by decide))
  have e : (Rp.ofL ((Rp.bytesOf (Rp.ofL ((Rp.bytesOf s).map fun x => if x = 13 then 32 else x))).map fun x => if x = 10 then 32 else x)) = errT s := rfl
  rw [e] at R2
  clear e
  generalize errT s = t at *
  generalize Rp.ofL ((Rp.bytesOf s).map fun x => if x = 13 then 32 else x) = s1 at *
  clear hv hs
  go_enter Tryd.func25, Tryd.ntmps25
  go_wp2_with fail
  refine R1.out.mono ?_
  rintro e w2 ⟨rfl, b2⟩
  have B2 := keep (B1.out.trans (b2.mono B1.out.size))
  have X2 := keep (X1.out.below b2 X1.out.lt)
  clear b2
  go_wp2_with fail
  refine (R2.out _ B2.out).mono ?_
  rintro e w3 ⟨rfl, b3⟩
  have B3 := keep (B2.out.trans (b3.mono B2.out.size))
  have X3 := keep (X2.out.below b3 X2.out.lt)
  obtain ⟨d0, d1, d2, d3⟩ := X3.out.cells
  have f0 := X3.out.free 0
  have f1 := X3.out.free 1
  have f2 := X3.out.free 2
  have f3 := X3.out.free 3
  clear b3 R1 R2 hW1
  go_wp2
  (try simp only [Exit.inBlock, Exit.then])
  refine bodyPost_ret (res_rp1 rfl _ _ w.heap.size _ _ _ _ rfl (Box.four X3.out _ _ _ _)) rfl ?_
  exact ⟨rfl, Below.four B3.out (Nat.le_refl _) _ _ _ _⟩
end Go.Proofs.YtoalnfkjpdgbiaaDoor

/-
  Contracts over this program: Request and Bulks of any texts.
-/
namespace Go.Proofs.YtoalnfkjpdgbiaaDoor
open Go.RowKit
set_option linter.unusedVariables false
/-- texts that came in -/
def Txs (w : World) (so : Option Addr) (S : List ByteArray) : Prop :=
  ∀ j (h : j < S.length), ∃ a, so = some a ∧ a.block < w.heap.size ∧ S[j].size ≤ 1048576 ∧ w.cell? (a.add j) = some (.string S[j])
theorem ad_block (a : Addr) (j : Nat) : (a.add j).block = a.block := by unfold Addr.add; split <;> rfl
theorem Txs.bel {w w' : World} {so : Option Addr} {S : List ByteArray} (h : Txs w so S) (hb : Below w.heap.size w w') : Txs w' so S := fun j hj => by
  obtain ⟨a, q1, q2, q3, q4⟩ := h j hj
  exact ⟨a, q1, Nat.lt_of_lt_of_le q2 hb.size, q3, (hb.cell (by rw [ad_block]; exact q2)).trans q4⟩
/-- a reply of bytes -/
def bkR (n : Nat) (s : ByteArray) : Rp.T (n + 1) := Rp.mk 4 s 0 []
/-- a command as it is sent -/
def rqR (S : List ByteArray) : Rp.T 2 := Rp.mk 6 .empty 0 (S.map (bkR 0))
theorem rq_enc (S : List ByteArray) : Rp.enc 2 (rqR S) = 42 :: (Lib.itoa (S.length : Int) ++ Rp.crlf ++ S.flatMap fun s => Rp.enc 1 (bkR 0 s)) := by
  show 42 :: (Lib.itoa ((S.map (bkR 0)).length : Int) ++ Rp.crlf ++ (S.map (bkR 0)).flatMap (Rp.enc 1)) = _
  rw [List.length_map, List.flatMap_map]
theorem bk_right (n : Nat) (s : ByteArray) : Rp.right (n + 1) (bkR n s) = true := by
  show (Rp.wellW 4 s 0 ([] : List (Rp.T n)) && ([] : List (Rp.T n)).all (Rp.right n)) = true
  rfl
theorem rq_right (S : List ByteArray) : Rp.right 2 (rqR S) = true := by
  show (Rp.wellW 6 .empty 0 (S.map (bkR 0)) && (S.map (bkR 0)).all (Rp.right 1)) = true
  rw [List.all_eq_true.2 (fun u hu => by obtain ⟨s, _, rfl⟩ := List.mem_map.1 hu; exact bk_right 0 s)]
  rfl
theorem rq_verd (S : List ByteArray) : verd 2 (rqR S) = 0 := by
  unfold verd
  rw [rq_right, if_pos rfl, if_neg]
  rw [Bool.not_eq_true]
  show (((6 : Int) == 6 && 8 == 0) || (S.map (bkR 0)).any (Rp.deep 1 (8 - 1))) = false
  rw [List.any_eq_false.2 (fun u hu => by obtain ⟨s, _, rfl⟩ := List.mem_map.1 hu; rw [Bool.not_eq_true]; rfl)]
  rfl
theorem kb_one (w : World) (x : UInt8) : Kb (w.alloc (.cells #[.int .u8 (x.toNat : Int)] 5)) (.slice (some ⟨w.heap.size, 0, none⟩) 1 1) [x] :=
  ⟨rfl, .inr ⟨w.heap.size, 1, _, rfl, Nat.zero_le _, heap_alloc_new _ _, Nat.le_refl _, by decide, rfl, rfl⟩⟩
set_option maxRecDepth 100000 in
set_option maxHeartbeats 4000000 in
theorem request_any (so : Option Addr) (cap : Nat) (S : List ByteArray) (w : World) (hT : Txs w so S) (ht : Tab w) (hl : (Rp.enc 2 (rqR S)).length ≤ 16777216) :
    Calls Tryd.prog 34 #[.slice so S.length cap] w fun e w' => (∃ ao m c, e = .returned (.slice ao m c) ∧ Nb w w' (.slice ao m c) (Rp.enc 2 (rqR S))) ∧ Below w.heap.size w w' := by
  rw [rq_enc] at hl ⊢
  have hS : S.length ≤ 16777216 := by
    have h2 : S.length ≤ (S.flatMap fun s => Rp.enc 1 (bkR 0 s)).length := by
      clear hT hl
      induction S with
      | nil => simp
      | cons s S ih =>
        rw [List.flatMap_cons, List.length_append, List.length_cons]
        have := Rp.enc_three 1 (bkR 0 s)
        omega
    rw [List.length_cons, List.length_append] at hl
    omega
  have HT := keep hT
  have HTB := keep ht
  have HL := keep hl
  obtain ⟨n, hn⟩ : ∃ n, S.length = n := ⟨_, rfl⟩
  rw [hn] at hS HL ⊢
  have HN := keep hn
  have HS := keep hS
  obtain ⟨Z, hZ⟩ : ∃ Z, Z = 42 :: (Lib.itoa (n : Int) ++ Rp.crlf ++ S.flatMap fun s => Rp.enc 1 (bkR 0 s)) := ⟨_, rfl⟩
  rw [← hZ]
  have HZ := keep hZ
  clear hZ
  obtain ⟨W1, hW1⟩ : ∃ x, x = w.alloc (.cells #[.int .u8 42] 5) := ⟨_, rfl⟩
  have b1 : Below w.heap.size w W1 := hW1 ▸ (Below.refl _ _).alloc (Nat.le_refl _) _
  have K1 := keep (show Kb W1 (.slice (some ⟨w.heap.size, 0, none⟩) 1 1) [42] from hW1 ▸ kb_one w 42)
  have B1 := keep b1
  have TX := keep (text_any (n : Int) W1 (by omega) (by omega) (tab_below ht b1 (tab_lt ht)))
  have hW1' : w.alloc (.cells #[.int .u8 ((((⟨#[43, 45, 58, 36, 36, 42, 42]⟩ : ByteArray)[5]'(by decide)).toNat : Nat) : Int)] 5) = W1 := hW1.symm
  have n63 : IntKind.i64.wrap (n : Int) = (n : Int) := by rw [IntKind.wrap_i64]; omega
  clear hT ht hl hn hS hW1 b1
  go_enter Tryd.func34, Tryd.ntmps34
  go_wp2_with fail
  refine TX.out.mono ?_
  rintro e w2 ⟨rfl, b2⟩
  have B2 := keep (B1.out.trans (b2.mono B1.out.size))
  have PL := keep (putLine_any (Rp.ofL (Lib.itoa (n : Int))) w2 (K1.out.later b2) (by rw [Rp.ofL_size]; have := HL.out; simp only [List.length_cons, List.length_append, List.length_nil] at *; omega))
  clear b2 TX
  go_wp2_with fail
  refine PL.out.mono ?_
  rintro e w3 ⟨ao3, n3, c3, rfl, k3, g3⟩
  have hd3 : [42] ++ Rp.bytesOf (Rp.ofL (Lib.itoa (n : Int))) ++ Rp.crlf = 42 :: (Lib.itoa (n : Int) ++ Rp.crlf) := by rw [Rp.ofL_bytes]; simp
  rw [hd3] at k3
  have own3 : ∀ k, (Value.slice ao3 n3 c3).ownBlock = some k → w.heap.size ≤ k := fun k hk => by
    rcases g3.2 k hk with e | e
    · have e' : some w.heap.size = some k := e
      injection e' with e'
      omega
    · exact Nat.le_trans B2.out.size e
  have B3 := keep (B2.out.trans (g3.below B2.out.size (fun k hk => by have e' : some w.heap.size = some k := hk; injection e' with e'; omega)))
  obtain ⟨H0, hH0⟩ : ∃ H0, H0 = 42 :: (Lib.itoa (n : Int) ++ Rp.crlf) := ⟨_, rfl⟩
  rw [← hH0] at k3
  have HL2 : Kept (H0.length + (S.flatMap fun s => Rp.enc 1 (bkR 0 s)).length ≤ 16777216) := keep (by
    have := HL.out
    rw [hH0]
    simp only [List.length_cons, List.length_append] at *
    omega)
  have HE : Kept (Z = H0 ++ S.flatMap fun s => Rp.enc 1 (bkR 0 s)) := keep (by rw [HZ.out, hH0]; simp)
  have K3 := keep k3
  have O3 := keep own3
  clear hd3 k3 g3 own3 hH0 PL HL
  go_wp2
  go_loopw [15, 3] (fun j v wr => ∃ (jj : Nat) (ao : Option Addr) (q c : Nat), j = .int .i64 (jj : Int) ∧ v = .slice ao q c ∧ jj ≤ n ∧ Kept (Kb wr (.slice ao q c) (H0 ++ (S.take jj).flatMap fun s => Rp.enc 1 (bkR 0 s))) ∧ Kept (∀ k, (Value.slice ao q c).ownBlock = some k → w.heap.size ≤ k) ∧ Kept (Below w.heap.size w wr)) (fun j _ _ => n - (intOf j).toNat)
  case atStart => exact ⟨0, ao3, n3, c3, rfl, rfl, Nat.zero_le _, keep (by simpa using K3.out), O3, B3⟩
  case round =>
    obtain ⟨jj, ao, q, c, rfl, rfl, hj, KW, OW, BW⟩ := hrel
    by_cases hlt : jj < n
    · have h0 : (0 : Int) ≤ (jj : Int) := by omega
      have h1 : (jj : Int) < (n : Int) := by omega
      have nw : IntKind.i64.wrap ((jj : Int) + 1) = ((jj + 1 : Nat) : Int) := by have := HS.out; rw [IntKind.wrap_i64]; omega
      have hjS : jj < S.length := by rw [HN.out]; exact hlt
      obtain ⟨a, rfl, hab, hsz, hc0⟩ := HT.out jj hjS
      obtain ⟨s, hs⟩ : ∃ s, S[jj]'hjS = s := ⟨_, rfl⟩
      have hs2 : S[jj]? = some s := by rw [List.getElem?_eq_getElem hjS, hs]
      rw [hs] at hc0 hsz
      have c0 := (BW.out.cell (by rw [ad_block]; exact hab)).trans hc0
      have HX := keep hs2
      have HLT := keep hlt
      have HSZ := keep hsz
      clear hs hs2 hc0 hab hsz hlt hjS
      go_wp2_with fail
      refine (bulk1_any s _).mono ?_
      rintro e w4 ⟨rfl, b4⟩
      have B4 := keep (BW.out.trans (b4.mono BW.out.size))
      have PU := keep (put_any 1 (bkR 0 s) [.int .i64 4, .string s, .int .i64 0, .slice none 0 0] (.slice ao q c) _ w4 ⟨_, rfl, .inl ⟨rfl, _, rfl⟩, ⟨by show (-9223372036854775808 : Int) ≤ 4; decide, by show (4 : Int) ≤ 9223372036854775807; decide⟩, ⟨by show (-9223372036854775808 : Int) ≤ 0; decide, by show (0 : Int) ≤ 9223372036854775807; decide⟩, by show s.size < 4294967281; have := HSZ.out; omega⟩ (bk_right 0 s) (KW.out.later b4)
        (tab_below HTB.out B4.out (tab_lt HTB.out)) ⟨Nat.lt_of_lt_of_le (tab_lt HTB.out) B4.out.size, fun e => by have := OW.out _ e; have := tab_lt HTB.out; omega⟩ (by
          have h1 := flat_le (fun s => Rp.enc 1 (bkR 0 s)) S (jj + 1)
          rw [take_flat _ HX.out, List.length_append] at h1
          have h2 := HL2.out
          rw [List.length_append]
          omega))
      clear b4
      go_wp2_with fail
      refine PU.out.mono ?_
      rintro e w5 ⟨ao5, n5, c5, rfl, k5, g5⟩
      have B5 := keep (B4.out.trans (g5.below B4.out.size OW.out))
      have K5 : Kept (Kb w5 (.slice ao5 n5 c5) (H0 ++ (S.take (jj + 1)).flatMap fun s => Rp.enc 1 (bkR 0 s))) := keep (by
        rw [take_flat _ HX.out, ← List.append_assoc]
        exact k5)
      have O5 : Kept (∀ k, (Value.slice ao5 n5 c5).ownBlock = some k → w.heap.size ≤ k) := keep (fun k hk => by
        rcases g5.2 k hk with e | e
        · exact OW.out k e
        · exact Nat.le_trans B4.out.size e)
      clear k5 g5 PU
      go_wp2
      go_roundw
      case measure => have := HLT.out; simp [intOf]; omega
      case rel => exact ⟨jj + 1, ao5, n5, c5, by rfl, rfl, HLT.out, K5, O5, B5⟩
    · have h1 : ¬ (jj : Int) < (n : Int) := by omega
      obtain rfl : jj = n := by omega
      have KF : Kept (Kb wr (.slice ao q c) (H0 ++ S.flatMap fun s => Rp.enc 1 (bkR 0 s))) := keep (by
        have h2 := KW.out
        rw [List.take_of_length_le (by rw [HN.out]; exact Nat.le_refl _)] at h2
        exact h2)
      go_wp2
      go_ret
      rw [HE.out]
      exact ⟨⟨_, _, _, rfl, KF.out, OW.out⟩, BW.out⟩
end Go.Proofs.YtoalnfkjpdgbiaaDoor

namespace Go.Proofs.YtoalnfkjpdgbiaaDoor
open Go.RowKit
set_option linter.unusedVariables false
theorem run_makeSlice_any (w : World) (m : Nat) (hm : m ≤ 1000000003) :
    ∃ w2, (Instr.makeSlice 23 (.int .i64 0) (.int .i64 (m : Int))).run Tryd.prog w = .ok (.slice (some ⟨w.heap.size, 0, none⟩) 0 m) w2 ∧ w2.ownsRow w.heap.size 25 4 (.slice (some ⟨w.heap.size, 0, none⟩) 0 m) 0 [] ∧ w.grownBy w2 none := by
  obtain ⟨i0, hi0, hz0, hz1, hz2⟩ := parts_of info_rp
  exact run_make_own (P := Tryd.prog) w w.heap.size 23 25 i0 _ 4 Tryd.underlying23 hi0 hz0 hz1 .i64 .i64 m (by rw [hz2]; omega) (by unfold maxLen; omega) (Nat.le_refl _)
/-- a list of replies in a row of its own, three places left behind it -/
theorem list_made (n : Nat) (P0 : Nat → Prop) (L : List (Rp.T n)) (ao : Option Addr) (cp : Nat) (w : World) (h0 : ∀ b, P0 b → b < w.heap.size) (h : Lst P0 w (Tel P0 w n) (.slice ao L.length cp) L) (hm : L.length ≤ 1000000000) :
    ∃ (w2 w3 : World) (g c : Nat), (Instr.makeSlice 23 (.int .i64 0) (.int .i64 ((L.length + 3 : Nat) : Int))).run Tryd.prog w = .ok (.slice (some ⟨w.heap.size, 0, none⟩) 0 (L.length + 3)) w2 ∧
      (Builtin.append_ #[23, 23] 23 #[.slice (some ⟨w.heap.size, 0, none⟩) 0 (L.length + 3), .slice ao L.length cp]).run Tryd.prog w2 = .ok (.slice (some ⟨g, 0, none⟩) L.length c) w3 ∧
      Kept (Below w.heap.size w w2) ∧ Kept (Below w.heap.size w w3) ∧ Kept (w.heap.size ≤ g ∧ g < w3.heap.size) ∧ Kept (L ≠ [] → Lst (· < w3.heap.size) w3 (Tel P0 w3 n) (.slice (some ⟨g, 0, none⟩) L.length c) L) ∧
      Kept (∃ cur, w3.heap[g]? = some (.cells cur 25 (0, 0)) ∧ L.length * 4 ≤ cur.size) := by
  obtain ⟨i0, hi0, hz0, hz1, hz2⟩ := parts_of info_rp
  obtain ⟨w2, r2, k2, g2⟩ := run_makeSlice_any w (L.length + 3) (by omega)
  have b2 : Below w.heap.size w w2 := (Below.refl _ w).grown g2 (Nat.le_refl _) (fun k hk => by cases hk)
  have kk := k2.2
  rcases kk with ⟨e, _⟩ | ⟨g', cap', cu', ev', hb', hg', q1, q2, q3, q4⟩
  · cases e
  injection ev' with e1 _ e3
  injection e1 with e1
  injection e1 with e1
  subst e1
  subst e3
  rcases h with ⟨e, ao', ev⟩ | ⟨g, cap, cur, ev, hL, hPg, hc, h5, h6, h7, ht⟩
  · subst e
    injection ev with _ _ e3
    refine ⟨w2, w2, w.heap.size, 3, r2, app_zero (P := Tryd.prog) w2 23 23 25 Tryd.underlying23 i0 hi0 ⟨w.heap.size, 0, none⟩ 0 3 (by decide) ao cp, keep b2, keep b2, keep ⟨Nat.le_refl _, (Array.getElem?_eq_some_iff.1 hg').1⟩, keep (fun hn => absurd rfl hn), keep ⟨cu', hg', by simp⟩⟩
  · injection ev with e1 _ e3
    subst e1
    subst e3
    have hg := h0 g hPg
    have T1 : ∀ j x, L[j]? = some x → Tel P0 w2 n ((cur.toList.drop (j * 4)).take 4) x := fun j x hx =>
      Tel.mono (fun b h => h) (fun b h => b2.block b (h0 b h)) n _ _ (ht j x hx)
    have gg : w2.heap[g]? = some (.cells cur 25 (0, 0)) := (b2.block g hg).trans hc
    have hlen : (cur.toList.take (L.length * 4)).length = L.length * 4 := by
      have e : cur.toList.length = cp * 4 := by rw [← h7]; exact Array.length_toList
      rw [List.length_take, e]; omega
    obtain ⟨v', w', r1, r2', r3, r4, _⟩ := app_gen w2 w.heap.size 23 23 23 25 i0 _ 4 56 Tryd.underlying23 hi0 hz0 hz1 hz2 rfl (by decide) _ 0 [] k2 (.slice (some ⟨g, 0, none⟩) L.length cp) L.length (cur.toList.take (L.length * 4)) (Src.ofSlice _ Tryd.underlying23 ⟨g, 0, none⟩ L.length cp _ hlen (fun j u hu => by
      rw [add_at, Nat.zero_add, cell_of_row _ _ _ _ _ _ gg, ← Array.getElem?_toList]
      rw [List.getElem?_take] at hu
      split at hu
      · exact hu
      · cases hu) (fun u hu => by
      obtain ⟨j, hj⟩ := List.mem_iff_getElem?.1 hu
      have hj4 : j < L.length * 4 := by
        have := (List.getElem?_eq_some_iff.1 hj).1
        omega
      obtain ⟨x, hx⟩ : ∃ x, L[j / 4]? = some x := ⟨_, List.getElem?_eq_getElem (by omega)⟩
      refine one_of (T1 _ _ hx) u ?_
      rw [List.getElem?_take, if_pos hj4] at hj
      refine List.mem_iff_getElem?.2 ⟨j % 4, ?_⟩
      rw [List.getElem?_take, if_pos (by omega), List.getElem?_drop, show j / 4 * 4 + j % 4 = j by omega]
      exact hj)) (by unfold maxLen; omega) (by omega) b2.size
    rw [Nat.zero_add, List.nil_append] at r2'
    have b3 : Below w.heap.size w w' := b2.trans ⟨r3.os, r3.tape, r3.output, r3.size, fun k hk => r3.block k (Nat.lt_of_lt_of_le hk b2.size) (fun e => by
      have : w.heap.size = k := (Option.some.inj e).symm
      omega)⟩
    have hlt := r2'.lt
    rcases r2'.2 with ⟨_, e⟩ | ⟨g3, c3, cu, rfl, hg3, q3', q4', q5, q6, q7⟩
    · exact absurd (List.length_eq_zero_iff.1 e) hL
    · refine ⟨w2, w', g3, c3, r2, r1, keep b2, keep b3, keep (hlt g3 rfl), keep (fun _ => .inr ⟨g3, c3, cu, rfl, hL, (hlt g3 rfl).2, q3', q4', q5, q6, fun j t hj => ?_⟩), keep ⟨cu, q3', by rw [q6]; omega⟩⟩
      have hx := ht j t hj
      have hl := (List.getElem?_eq_some_iff.1 hj).1
      have e : (cu.toList.drop (j * 4)).take 4 = (cur.toList.drop (j * 4)).take 4 := by
        have e1 := congrArg (fun l => (l.drop (j * 4)).take 4) q7
        simp only [List.drop_take, List.take_take] at e1
        rwa [show min 4 (L.length * 4 - j * 4) = 4 by omega] at e1
      rw [e]
      exact Tel.mono (fun b h => h) (fun b h => b3.block b (h0 b h)) n _ _ hx
/-- Array of a list that has just been laid -/
theorem array_laid (n : Nat) (P0 : Nat → Prop) (L : List (Rp.T n)) (g c : Nat) (w : World) (h0 : ∀ b, P0 b → b < w.heap.size) (h : L ≠ [] → Lst (· < w.heap.size) w (Tel P0 w n) (.slice (some ⟨g, 0, none⟩) L.length c) L) (hm : L.length ≤ 1000000000) :
    Calls Tryd.prog 21 #[.slice (some ⟨g, 0, none⟩) L.length c] w fun e w' => (∃ v', e = .returned (.agg #[.int .i64 6, .string ⟨#[]⟩, .int .i64 0, v']) ∧ Lst (fun b => (P0 b ∨ w.heap.size < b) ∧ b < w'.heap.size) w' (Tel (fun b => (P0 b ∨ w.heap.size < b) ∧ b < w'.heap.size) w' n) v' L) ∧ Below w.heap.size w w' := by
  by_cases hL : L = []
  · subst hL
    exact (array_zero ⟨g, 0, none⟩ c w).mono fun e w' ⟨⟨ao, he⟩, hb⟩ => ⟨⟨_, he, .inl ⟨rfl, _, rfl⟩⟩, hb⟩
  · exact Array_all n P0 L _ w h0 (h hL) hL hm
/-- texts in a row of their own -/
def Wx (w : World) (g : Nat) (S : List ByteArray) : Prop := ∃ cur, w.heap[g]? = some (.cells cur 9 (0, 0)) ∧ S.length ≤ cur.size ∧ ∀ (j : Nat) (s : ByteArray), S[j]? = some s → cur[j]? = some (Value.string s)
theorem Wx.lt {w : World} {g : Nat} {S : List ByteArray} (h : Wx w g S) : g < w.heap.size := by
  obtain ⟨cur, hg, _⟩ := h
  exact (Array.getElem?_eq_some_iff.1 hg).1
theorem Wx.cell {w : World} {g : Nat} {S : List ByteArray} (h : Wx w g S) {j : Nat} {s : ByteArray} (hs : S[j]? = some s) : w.cell? ⟨g, j, none⟩ = some (.string s) := by
  obtain ⟨cur, hg, _, hc⟩ := h
  rw [cell_of_row _ _ _ _ _ _ hg]
  exact hc j s hs
theorem Wx.free {w : World} {g : Nat} {S : List ByteArray} (h : Wx w g S) (j : Nat) : w.frozen? ⟨g, j, none⟩ = false := by
  obtain ⟨cur, hg, _⟩ := h
  exact frozen_of_row _ _ _ _ _ hg
theorem Wx.same {w w' : World} {g : Nat} {S : List ByteArray} (h : Wx w g S) (hb : w'.heap[g]? = w.heap[g]?) : Wx w' g S := by
  obtain ⟨cur, hg, hc⟩ := h
  exact ⟨cur, hb.trans hg, hc⟩
theorem Wx.set {w : World} {g : Nat} {S : List ByteArray} (h : Wx w g S) (j : Nat) (t : ByteArray) : Wx (w.setCell ⟨g, j, none⟩ (.string t)) g (S.set j t) := by
  obtain ⟨cur, hg, hs, hc⟩ := h
  refine ⟨cur.setIfInBounds j (.string t), by simp [World.setCell, Array.getElem?_modify, hg], by simpa using hs, fun k y hy => ?_⟩
  rw [List.getElem?_set] at hy
  rw [Array.getElem?_setIfInBounds]
  split at hy
  · rename_i e
    subst e
    split at hy
    · rw [if_pos rfl, if_pos (by omega)]
      cases hy
      rfl
    · cases hy
  · rename_i e
    rw [if_neg e]
    exact hc k y hy
theorem Wx.txs {w : World} {g : Nat} {S : List ByteArray} (h : Wx w g S) (hS : ∀ s ∈ S, s.size ≤ 1048576) : Txs w (some ⟨g, 0, none⟩) S := fun j hj =>
  ⟨⟨g, 0, none⟩, rfl, h.lt, hS _ (List.getElem_mem hj), by rw [add_at, Nat.zero_add]; exact h.cell (List.getElem?_eq_getElem hj)⟩
end Go.Proofs.YtoalnfkjpdgbiaaDoor
