/-
  Contracts over this program: each key stands in its place (placed).
-/
import Derived.Test.YtcdcdodhpnmhpaaDictBucket
import Derived.Test.YtcdcdodhpnmhpaaDictBoth
import Derived.Test.YtcdcdodhpnmhpaaSameTexts
import Derived.Laws.Bits64
import Derived.Deep.CutRange
namespace Go.Proofs.Ytcdcdodhpnmhpaa
open Go.RowKit Go.Shelf
theorem pow_and {n : Nat} (h : Dc.good n) (hn : n ≤ 5400000000000) : bits .and .i64 (n : Int) ((n : Int) - 1) = 0 ∨ n = 0 := by
  rcases h with rfl | ⟨h4, a, ha⟩
  · exact .inr rfl
  · left
    have e1 : ((n : Int) - 1) = ((n - 1 : Nat) : Int) := by omega
    have h1 : (BitVec.ofInt 64 (n : Int)).toNat = n := by rw [BitVec.ofInt_natCast, BitVec.toNat_ofNat]; exact Nat.mod_eq_of_lt (by omega)
    have h2 : (BitVec.ofInt 64 ((n - 1 : Nat) : Int)).toNat = n - 1 := by rw [BitVec.ofInt_natCast, BitVec.toNat_ofNat]; exact Nat.mod_eq_of_lt (by omega)
    rw [e1]
    show IntKind.i64.wrap ((BitVec.ofInt 64 (n : Int) &&& BitVec.ofInt 64 ((n - 1 : Nat) : Int)).toNat : Int) = _
    rw [BitVec.toNat_and, h1, h2]
    have : n &&& (n - 1) = 0 := by rw [ha, Nat.and_two_pow_sub_one_eq_mod, Nat.mod_self]
    rw [this]
    rfl
/-- the keys of a bucket of either table -/
theorem bucket_any (w : World) (r : Roles) (b seed n : Nat) (s : Dc.St ByteArray Int) (hD : Dct w r b seed n s) (t : Nat) (T : Dc.Tab ByteArray Int) (hT : (t = 0 ∧ T = s.old) ∨ (t = 1 ∧ T = s.young)) (hm : T.length ≤ 5400000000000) (i : Nat) (c : List Ent) (hc : T[i]? = some c) (hcl : c.length ≤ 2600000000000) :
    Calls Try.prog 28 #[.pointer (some ⟨b, 0, none⟩), .int .i64 t, .int .i64 i] w fun x w' => (∃ v, x = .returned v ∧ Ks w.heap.size w' v (c.map (·.1))) ∧ Below w.heap.size w w' := by
  rcases hT with ⟨rfl, rfl⟩ | ⟨rfl, rfl⟩
  · exact bucket0_any w r b seed n s hD hm i c hc hcl
  · exact bucket1_any w r b seed n s hD hm i c hc hcl
theorem flat_le {T : Dc.Tab ByteArray Int} {c : List Ent} (h : c ∈ T) : c.length ≤ T.flatten.length := by
  induction T with
  | nil => cases h
  | cons d T ih =>
    rw [List.flatten_cons, List.length_append]
    rcases List.mem_cons.1 h with rfl | h'
    · omega
    · have := ih h'; omega
theorem take_flat {T : Dc.Tab ByteArray Int} {i : Nat} {c : List Ent} (h : T[i]? = some c) : (T.take (i + 1)).flatten.length = (T.take i).flatten.length + c.length := by
  obtain ⟨hi, e⟩ := List.getElem?_eq_some_iff.1 h
  rw [List.take_succ_eq_append_getElem hi, List.flatten_append, List.length_append, e]
  simp
/-- the keys of the first k tables -/
def cn (s : Dc.St ByteArray Int) (k : Nat) : Nat := (if 0 < k then s.old.flatten.length else 0) + (if 1 < k then s.young.flatten.length else 0)
theorem cn_le (s : Dc.St ByteArray Int) (k : Nat) : cn s k ≤ s.old.flatten.length + s.young.flatten.length := by unfold cn; split <;> split <;> omega
/-- one of both tables -/
theorem table_of (s : Dc.St ByteArray Int) {k : Nat} (hk : k < 2) : ∃ T : Dc.Tab ByteArray Int, ((k = 0 ∧ T = s.old) ∨ (k = 1 ∧ T = s.young)) ∧ cn s (k + 1) = cn s k + T.flatten.length := by
  rcases Nat.lt_or_ge k 1 with h | h
  · obtain rfl : k = 0 := by omega
    exact ⟨_, .inl ⟨rfl, rfl⟩, by simp [cn]⟩
  · obtain rfl : k = 1 := by omega
    exact ⟨_, .inr ⟨rfl, rfl⟩, by simp [cn]⟩
theorem take_le (T : Dc.Tab ByteArray Int) (m : Nat) : (T.take m).flatten.length ≤ T.flatten.length := by
  have h := congrArg List.length (congrArg List.flatten (List.take_append_drop m T))
  rw [List.flatten_append, List.length_append] at h
  omega
set_option maxRecDepth 100000 in
set_option maxHeartbeats 4000000 in
theorem placed_any {h : ByteArray → Nat} {seed N : Nat} (hH : HashIs seed h) (w : World) (r : Roles) (b : Nat) (s : Dc.St ByteArray Int) (hd : Dd h N w r b seed s) (hN : N ≤ 2600000000000) :
    Calls Try.prog 20 #[.pointer (some ⟨b, 0, none⟩), .int .u64 seed] w fun e w' => e = .returned (.bool true) ∧ Below w.heap.size w w' := by
  have hI := hd.2.1
  obtain ⟨O, hO⟩ : ∃ O, s.old.length = O := ⟨_, rfl⟩
  obtain ⟨Y, hY⟩ : ∃ Y, s.young.length = Y := ⟨_, rfl⟩
  obtain ⟨p, hp⟩ : ∃ p, s.pos = p := ⟨_, rfl⟩
  have b4 := hd.2.2.2.2.1
  have b5 := hd.2.2.2.2.2
  have b3 := hd.2.2.2.1
  have g0 := hI.size0
  have g1 := hI.size1
  have hr : Y = 0 → p = 0 := fun e => by rw [← hp]; exact hI.rest (List.length_eq_zero_iff.1 (by omega))
  have hm : 0 < Y → p < O := fun e => by rw [← hp, ← hO]; exact hI.move (fun e' => by rw [e'] at hY; simp at hY; omega)
  rw [hO] at b4 g0
  rw [hY] at b5 g1
  have a0 := pow_and g0 (by omega)
  have a1 := pow_and g1 (by omega)
  have o4 : O = 0 ∨ 4 ≤ O := g0.imp id (fun h => h.1)
  have y4 : Y = 0 ∨ 4 ≤ Y := g1.imp id (fun h => h.1)
  have hall := Dc.all_eq hI
  have mZ := sizes_any w r b seed _ s hd.1
  rw [hO, hY, hp] at mZ
  have wO : IntKind.i64.wrap ((O : Int) - 1) = (O : Int) - 1 := by rw [IntKind.wrap_i64]; omega
  have wY : IntKind.i64.wrap ((Y : Int) - 1) = (Y : Int) - 1 := by rw [IntKind.wrap_i64]; omega
  have dP : decide ((p : Int) < 0) = false := decide_eq_false (by omega)
  have HI := keep hI
  have HD := keep hd
  have HO := keep hO
  have HY := keep hY
  have HP := keep hp
  have HA := keep hall
  clear g0 g1 hI hd hO hY hp hall
  go_enter Try.func20, Try.ntmps20
  go_wp2_with fail
  refine mZ.mono ?_
  rintro _ w1 ⟨rfl, q, hw1⟩
  have hb1 : Below w.heap.size w w1 := by rw [hw1]; exact below_drewN (Below.refl _ _) q
  clear mZ hw1
  go_upto_region 2 with fail
  go_cut [78] from 21 to 78 (fun c wx => c = .bool false ∧ wx = w1)
  case first =>
    rcases Nat.eq_zero_or_pos O with rfl | hO0
    · have hY0 : Y = 0 := by omega
      have hp0 : p = 0 := hr hY0
      subst hY0 hp0
      go_wp2
      go_meet
      case rel => exact ⟨rfl, rfl⟩
    · have z1 : ((O : Int) == 0) = false := beq_eq_false_iff_ne.2 (by omega)
      have z1' : ((O : Int) != 0) = true := by simp; omega
      have z2 : decide ((O : Int) < 4) = false := decide_eq_false (by omega)
      have z3 : bits .and .i64 (O : Int) ((O : Int) - 1) = 0 := by omega
      rcases Nat.eq_zero_or_pos Y with rfl | hY0
      · have hp0 : p = 0 := hr rfl
        subst hp0
        go_wp2
        go_meet
        case rel => exact ⟨rfl, rfl⟩
      · have y1 : ((Y : Int) == 0) = false := beq_eq_false_iff_ne.2 (by omega)
        have y1' : ((Y : Int) != 0) = true := by simp; omega
        have y2 : decide ((Y : Int) < 4) = false := decide_eq_false (by omega)
        have y3 : bits .and .i64 (Y : Int) ((Y : Int) - 1) = 0 := by omega
        have p1 : decide ((O : Int) < (p : Int)) = false := decide_eq_false (by have := hm hY0; omega)
        have p2 : decide ((O : Int) ≤ (p : Int)) = false := decide_eq_false (by have := hm hY0; omega)
        have y5 : decide ((0 : Int) < (Y : Int)) = true := decide_eq_true (by omega)
        go_wp2
        go_meet
        case rel => exact ⟨congrArg Value.bool (by have := hm hY0; simp; omega), rfl⟩
  case rest =>
    obtain ⟨rfl, rfl⟩ := hcut
    obtain ⟨wz, hwz⟩ : ∃ x, x = wc := ⟨_, rfl⟩
    subst hwz
    have HB1 := keep hb1
    have hsz1 := hb1.size
    have hgw : (wz.alloc (.cells #[.int .i64 O, .int .i64 Y] 3)).heap[wz.heap.size]? = some (.cells #[.int .i64 O, .int .i64 Y] 3 (0, 0)) := heap_alloc_new _ _
    have HG := keep hgw
    have HB2 := keep (hb1.alloc hsz1 (.cells #[.int .i64 O, .int .i64 Y] 3))
    clear a0 a1 o4 y4 wO wY dP hb1 hgw
    go_wp2
    go_loopw [8, 83] (fun n t wr => ∃ k : Nat, k ≤ 2 ∧ t = .int .i64 k ∧ n = .int .i64 (cn s k : Nat) ∧ Kept (Below w.heap.size w wr) ∧ Kept (wr.heap[wz.heap.size]? = some (.cells #[.int .i64 O, .int .i64 Y] 3 (0, 0)))) (fun _ t _ => 2 - (intOf t).toNat)
    case atStart => exact ⟨0, by omega, rfl, rfl, HB2, HG⟩
    case round =>
      obtain ⟨k, hk, rfl, rfl, KB, KG⟩ := hrel
      by_cases hlt : k < 2
      · have hz : (k : Int) < 2 := by omega
        have hz0 : (0 : Int) ≤ (k : Int) := by omega
        obtain ⟨T, hT, hcn⟩ := table_of s hlt
        obtain ⟨Sz, hSz⟩ : ∃ Sz, T.length = Sz := ⟨_, rfl⟩
        have hSO : Sz ≤ 5400000000000 := by
          rcases hT with ⟨_, e⟩ | ⟨_, e⟩
          · rw [← hSz, e, HO.out]; omega
          · rw [← hSz, e, HY.out]; omega
        have ck : wr.cell? ⟨wz.heap.size, k, none⟩ = some (.int .i64 Sz) := by
          rw [cell_of_row _ _ _ _ _ _ KG.out]
          rcases hT with ⟨e0, e⟩ | ⟨e0, e⟩
          · rw [e0, ← hSz, e, HO.out]; rfl
          · rw [e0, ← hSz, e, HY.out]; rfl
        have hput : Dc.Put h T := by
          rcases hT with ⟨_, e⟩ | ⟨_, e⟩
          · rw [e]; exact HI.out.put0
          · rw [e]; exact HI.out.put1
        have hmem : ∀ c ∈ T, ∀ e ∈ c, e ∈ Dc.all s := fun c hc e he => by
          rw [HA.out]
          rcases hT with ⟨_, e'⟩ | ⟨_, e'⟩
          · exact List.mem_append_left _ (List.mem_flatten.2 ⟨c, e' ▸ hc, he⟩)
          · exact List.mem_append_right _ (List.mem_flatten.2 ⟨c, e' ▸ hc, he⟩)
        have hgone : k = 0 → ∀ i, i < p → T[i]? = some [] := fun e0 i hi => by
          rcases hT with ⟨_, e⟩ | ⟨e1, _⟩
          · rw [e]; exact HI.out.gone i (by rw [HP.out]; exact hi)
          · omega
        have htot : cn s k + T.flatten.length ≤ N := by
          rw [← hcn]
          have h1 := cn_le s (k + 1)
          have h2 := congrArg List.length HA.out
          rw [List.length_append] at h2
          omega
        have HT := keep hT
        have HCN := keep hcn
        have HSZ := keep hSz
        have HPUT := keep hput
        have HMEM := keep hmem
        have HGONE := keep hgone
        have HTOT := keep htot
        clear hT hcn hSz hput hmem hgone htot
        obtain ⟨wo, hwo⟩ : ∃ x, x = wr := ⟨_, rfl⟩
        subst hwo
        go_wp2
        obtain ⟨C0, hC0⟩ : ∃ C0, cn s k = C0 := ⟨_, rfl⟩
        have HC0 := keep hC0
        rw [hC0]
        clear hC0 ck
        go_loopw [8, 89] (fun n i wr => ∃ m : Nat, m ≤ Sz ∧ i = .int .i64 m ∧ ∃ C1 : Nat, n = .int .i64 C1 ∧ Kept (C1 = C0 + (T.take m).flatten.length) ∧ Kept (Below w.heap.size w wr) ∧ Kept (wr.heap[wz.heap.size]? = some (.cells #[.int .i64 O, .int .i64 Y] 3 (0, 0)))) (fun _ i _ => Sz - (intOf i).toNat)
        case atStart => exact ⟨0, Nat.zero_le _, rfl, C0, rfl, by show _ = _; simp, KB, KG⟩
        case round =>
          obtain ⟨m, hmS, rfl, C1, rfl, KC1, QB, QG⟩ := hrel
          by_cases hml : m < Sz
          · have hmz : (m : Int) < (Sz : Int) := by omega
            have hm0 : (0 : Int) ≤ (m : Int) := by omega
            obtain ⟨c, hc⟩ : ∃ c, T[m]? = some c := ⟨_, List.getElem?_eq_getElem (by rw [HSZ.out]; exact hml)⟩
            have hcT : c ∈ T := List.mem_of_getElem? hc
            have hcl := flat_le hcT
            have htk := take_flat hc
            have htl := take_le T (m + 1)
            have hbnd : C1 + c.length ≤ N := by have := HTOT.out; rw [HC0.out] at this; rw [KC1.out]; omega
            have hdw := HD.out.below QB.out
            have mB := bucket_any wr r b seed _ s hdw.1 k T HT.out (by rw [HSZ.out]; exact hSO) m c hc (by omega)
            obtain ⟨n1, hn1⟩ : ∃ n1, c.length = n1 := ⟨_, rfl⟩
            have hmod : ∀ y ∈ c.map (·.1), h y % Sz = m ∧ y.size ≤ maxLen := fun y hy => by
              obtain ⟨e, he, rfl⟩ := List.mem_map.1 hy
              exact ⟨by rw [← HSZ.out]; exact HPUT.out m c hc e he, HD.out.2.2.1 e (HMEM.out c hcT e he)⟩
            have hemp : k = 0 → m < p → n1 = 0 := fun e0 hp' => by
              have := HGONE.out e0 m hp'
              rw [hc] at this
              rw [← hn1, Option.some.inj this]; rfl
            have hkl : (c.map (·.1)).length = n1 := by rw [List.length_map]; exact hn1
            generalize c.map (·.1) = ys at mB hmod hkl
            rw [hn1] at hbnd
            have KT : Kept ((T.take (m + 1)).flatten.length = (T.take m).flatten.length + n1) := by rw [htk, hn1]; exact rfl
            have HMOD := keep hmod
            have HKL := keep hkl
            clear hc hcT hcl htk htl hdw hmod hn1 hkl
            obtain ⟨wo2, hwo2⟩ : ∃ x, x = wr := ⟨_, rfl⟩
            subst hwo2
            go_wp2_with fail
            refine mB.mono ?_
            rintro _ w2 ⟨⟨v, rfl, hks⟩, hb2⟩
            obtain ⟨vo, vc, rfl⟩ := ks_len hks
            rw [HKL.out] at hks ⊢
            have HKS := keep hks
            have hszw := QB.out.size
            have QB2 : Kept (Below w.heap.size w w2) := QB.out.trans (hb2.mono hszw)
            have QG2 : Kept (w2.heap[wz.heap.size]? = some (.cells #[.int .i64 O, .int .i64 Y] 3 (0, 0))) := (hb2.block _ (Array.getElem?_eq_some_iff.1 QG.out).1).trans QG.out
            clear mB hks hb2 QB QG
            go_upto_region 12 with fail
            go_cut [89, 107] from 89 to 126 (fun i c wx => i = .int .i64 m ∧ c = .bool false ∧ wx = w2)
            case first =>
              rcases Nat.eq_zero_or_pos k with hk0 | hk0
              · subst hk0
                by_cases hmp : m < p
                · have := hemp rfl hmp
                  subst this
                  have hmpz : decide ((m : Int) < (p : Int)) = true := decide_eq_true (by omega)
                  go_wp2
                  go_meet
                  case rel => exact ⟨rfl, rfl, rfl⟩
                · have hmpz : decide ((m : Int) < (p : Int)) = false := decide_eq_false (by omega)
                  go_wp2
                  go_meet
                  case rel => exact ⟨rfl, rfl, rfl⟩
              · have hkb : ((k : Int) == 0) = false := beq_eq_false_iff_ne.2 (by omega)
                go_wp2
                go_meet
                case rel => exact ⟨rfl, rfl, rfl⟩
            case rest =>
              obtain ⟨rfl, rfl, rfl⟩ := hcut
              clear hemp
              go_wp2
              go_loopw [8, 110] (fun n j wr => ∃ q : Nat, q ≤ n1 ∧ j = .int .i64 q ∧ n = .int .i64 (C1 + q : Nat) ∧ wr = wc) (fun _ j _ => n1 - (intOf j).toNat)
              case atStart => exact ⟨0, Nat.zero_le _, rfl, rfl, rfl⟩
              case round =>
                obtain ⟨q, hq, rfl, rfl, rfl⟩ := hrel
                by_cases hql : q < n1
                · have hqz : (q : Int) < (n1 : Int) := by omega
                  have hq0 : (0 : Int) ≤ (q : Int) := by omega
                  obtain ⟨y, hy⟩ : ∃ y, ys[q]? = some y := ⟨_, List.getElem?_eq_getElem (by rw [HKL.out]; exact hql)⟩
                  obtain ⟨g, cap, e, _⟩ := HKS.out.form (by rw [HKL.out]; omega)
                  rw [HKL.out] at e
                  injection e with e1 e2 e3
                  subst e1 e3
                  have cy := HKS.out.at hy
                  obtain ⟨hmod, hysz⟩ := HMOD.out y (List.mem_of_getElem? hy)
                  obtain ⟨hXM, mH⟩ := hH y hysz
                  have hX' := Dw.le_of hXM
                  have mH := mH wr
                  generalize h y = X at hmod mH hX'
                  have w1 : IntKind.u64.wrap (Sz : Int) = (Sz : Int) := by rw [IntKind.wrap_u64]; omega
                  have w2 : IntKind.u64.wrap (m : Int) = (m : Int) := by rw [IntKind.wrap_u64]; omega
                  have w3 : ((Sz : Int) == 0) = false := beq_eq_false_iff_ne.2 (by omega)
                  have w4 : 1 ≤ (Sz : Int) := by omega
                  clear hy hysz hXM
                  go_wp2_with fail
                  refine mH.mono ?_
                  rintro _ w' ⟨rfl, hw'⟩
                  obtain rfl := hw'.symm
                  have hE : (X : Int) % (Sz : Int) = (m : Int) := by rw [← hmod]; rfl
                  have hnw : C1 + q + 1 ≤ 2600000000000 := by omega
                  clear hmod mH
                  go_wp2
                  go_roundw
                  case measure => simp [intOf]; omega
                  case rel => exact ⟨q + 1, by omega, by go_num, by go_num, trivial⟩
                · have hqz : ¬ (q : Int) < (n1 : Int) := by omega
                  obtain rfl : q = n1 := by omega
                  go_wp2
                  go_roundw
                  case measure => simp [intOf]; omega
                  case rel => exact ⟨m + 1, by omega, by go_num, C1 + q, rfl, by show _ = _; rw [KT.out, KC1.out]; omega, QB2, QG2⟩
          · have hmz : ¬ (m : Int) < (Sz : Int) := by omega
            obtain rfl : m = Sz := by omega
            have hC1 : C1 = cn s (k + 1) := by rw [KC1.out, HCN.out, HC0.out, List.take_of_length_le (by rw [HSZ.out]; exact Nat.le_refl _)]
            subst hC1
            go_wp2
            go_roundw
            case measure => simp [intOf]; omega
            case rel => exact ⟨k + 1, by omega, by go_num, rfl, QB, QG⟩
      · have hz : ¬ (k : Int) < 2 := by omega
        obtain rfl : k = 2 := by omega
        have mL := len_t wr r b s (HD.out.below KB.out)
        have hcn : cn s 2 = ln s := by
          have h2 := congrArg List.length HA.out
          rw [List.length_append] at h2
          unfold ln
          rw [h2]; simp [cn]
        rw [hcn]
        clear hcn
        go_wp2_with fail
        refine mL.mono ?_
        rintro _ w2 ⟨rfl, hw2⟩
        subst hw2
        go_wp2
        go_ret
        exact ⟨rfl, KB.out⟩
end Go.Proofs.Ytcdcdodhpnmhpaa
