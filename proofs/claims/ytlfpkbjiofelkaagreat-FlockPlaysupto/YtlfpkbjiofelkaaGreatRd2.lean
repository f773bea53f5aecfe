/-
  How the document's own dict turns in memory: its struct, a bucket of a table.
-/
import Derived.Test.YtlfpkbjiofelkaaGreatDictIter
import Derived.Laws.OwnMore
import Derived.Test.YtlfpkbjiofelkaaGreatDictOk
/-
  What the program's memory holds of the document's own dict: its struct, its two rows of buckets, its keys and values; each block has one role.
-/
namespace Go.Proofs.YtlfpkbjiofelkaaGreat
open Go.RowKit
set_option linter.unusedVariables false
set_option linter.unusedSimpArgs false
set_option maxRecDepth 100000
namespace Rd
variable {V : Type}
def txs (l : List ByteArray) : List Value := l.map Value.string
/-- a row of texts, of numbers -/
def Tx (w : World) (v : Value) (l : List ByteArray) : Prop := w.ownsRow 0 9 1 v l.length (txs l)
def Ix (w : World) (v : Value) (l : List Int) : Prop := w.ownsRow 0 3 1 v l.length (l.map (Value.int .i64))
/-- a chain: a row of its keys -/
def Chn (w : World) (v : Value) (c : List (ByteArray × V)) : Prop := w.ownsRow 0 9 1 v c.length (txs (Dc.keys c))
/-- a row of buckets lies in a slice; t: 0 old, 1 young -/
def Tb (w : World) (r : Roles) (t : Nat) (tv : Value) (T : Dc.Tab ByteArray V) : Prop :=
  ∃ vs : List Value, w.ownsRow 0 43 1 tv T.length vs ∧ (∀ k, tv.ownBlock = some k → r k = (1 + t, 0)) ∧
    ∀ i c, T[i]? = some c → ∃ v, vs[i]? = some v ∧ Chn w v c ∧ ∀ k, v.ownBlock = some k → r k = (3 + t, i)
theorem Tb.kept {w w' : World} {r r' : Roles} {t : Nat} {tv : Value} {T : Dc.Tab ByteArray V} (h : Tb w r t tv T) (hk : ∀ k, k < w.heap.size → ((r k).1 = 1 + t ∨ (r k).1 = 3 + t) → w'.heap[k]? = w.heap[k]? ∧ r' k = r k) : Tb w' r' t tv T := by
  obtain ⟨vs, h1, h2, h3⟩ := h
  refine ⟨vs, own_kept h1 (fun k e => (hk k (own_lt h1 e) (.inl (by rw [h2 k e]))).1), fun k e => by rw [(hk k (own_lt h1 e) (.inl (by rw [h2 k e]))).2]; exact h2 k e, fun i c hc => ?_⟩
  obtain ⟨v, e1, e2, e3⟩ := h3 i c hc
  exact ⟨v, e1, own_kept e2 (fun k e => (hk k (own_lt e2 e) (.inr (by rw [e3 k e]))).1), fun k e => by rw [(hk k (own_lt e2 e) (.inr (by rw [e3 k e]))).2]; exact e3 k e⟩
theorem Tb.form {w : World} {r : Roles} {t : Nat} {tv : Value} {T : Dc.Tab ByteArray V} (h : Tb w r t tv T) (hn : 0 < T.length) :
    ∃ g cap, tv = .slice (some ⟨g, 0, none⟩) T.length cap ∧ r g = (1 + t, 0) ∧ g < w.heap.size := by
  obtain ⟨vs, h1, h2, h3⟩ := h
  obtain ⟨g, cap, rfl, _, hg⟩ := h1.form hn
  exact ⟨g, cap, rfl, h2 g rfl, hg⟩
theorem Tb.empty {w : World} {r : Roles} {t : Nat} {tv : Value} (h : Tb (V := V) w r t tv []) : ∃ ao cap, tv = .slice ao 0 cap := by
  obtain ⟨vs, h1, h2, h3⟩ := h
  rcases h1.2 with ⟨rfl, _⟩ | ⟨g, cap, cur, rfl, _⟩
  · exact ⟨_, _, rfl⟩
  · exact ⟨_, _, rfl⟩
/-- a bucket's chain, where it lies -/
theorem Tb.at {w : World} {r : Roles} {t : Nat} {g cap n : Nat} {T : Dc.Tab ByteArray V} {i : Nat} {c : List (ByteArray × V)} (h : Tb w r t (.slice (some ⟨g, 0, none⟩) n cap) T) (hi : T[i]? = some c) :
    ∃ v, w.cell? ⟨g, i, none⟩ = some v ∧ Chn w v c ∧ ∀ k, v.ownBlock = some k → r k = (3 + t, i) := by
  obtain ⟨vs, h1, h2, h3⟩ := h
  obtain ⟨v, e1, e2, e3⟩ := h3 i c hi
  refine ⟨v, ?_, e2, e3⟩
  have := h1.cells (g := g) rfl i v e1
  rwa [show (⟨g, 0, none⟩ : Addr).add i = ⟨g, i, none⟩ by unfold Addr.add; split <;> simp_all] at this
theorem Tb.free {w : World} {r : Roles} {t : Nat} {g cap n : Nat} {T : Dc.Tab ByteArray V} (h : Tb w r t (.slice (some ⟨g, 0, none⟩) n cap) T) (i : Nat) : w.frozen? ⟨g, i, none⟩ = false := by
  obtain ⟨vs, h1, h2, h3⟩ := h
  rcases h1.2 with ⟨h, _⟩ | ⟨g', cap', cur, e, _, hg, _⟩
  · cases h
  · cases e
    simp [World.frozen?, hg]
/-- a bucket's chain turns into another one: w1 holds the new chain, the bucket is written then -/
theorem Tb.put {w w1 : World} {r : Roles} {t g cap n i : Nat} {T : Dc.Tab ByteArray V} {c c' : List (ByteArray × V)} {v' : Value} (h : Tb w r t (.slice (some ⟨g, 0, none⟩) n cap) T) (hi : T[i]? = some c) (hg : w1.heap[g]? = w.heap[g]?)
    (hk : ∀ k j, k < w.heap.size → r k = (3 + t, j) → j ≠ i → w1.heap[k]? = w.heap[k]?) (hv : Chn w1 v' c') (hb : ∀ k, v'.ownBlock = some k → r k = (3 + t, i) ∨ w.heap.size ≤ k) :
    Tb (w1.setCell ⟨g, i, none⟩ v') (role r v' (3 + t, i)) t (.slice (some ⟨g, 0, none⟩) n cap) (T.set i c') := by
  obtain ⟨vs, h1, h2, h3⟩ := h
  have hrg := h2 g rfl
  have hgl := own_lt h1 (k := g) rfl
  have hne : v'.ownBlock ≠ some g := by
    intro e
    rcases hb g e with h | h
    · rw [hrg] at h; simp at h
    · omega
  have hil : i < T.length := (List.getElem?_eq_some_iff.1 hi).1
  refine ⟨vs.set i v', ?_, ?_, ?_⟩
  · obtain ⟨l1, l2⟩ := h1
    refine ⟨by rw [List.length_set, l1, List.length_set], .inr ?_⟩
    rcases l2 with ⟨e, _⟩ | ⟨g', cap', cur, e, _, hh, hc, hm, hs, ht⟩
    · cases e
    · cases e
      rw [List.length_set]
      exact ⟨g, cap, _, rfl, Nat.zero_le _, cells_setCell (hg.trans hh), hc, hm, by simpa using hs, take_set ht⟩
  · intro k e
    cases e
    unfold role
    rw [if_neg hne]
    exact hrg
  · intro j d hd
    rw [List.getElem?_set] at hd
    by_cases hij : i = j
    · subst hij
      rw [if_pos rfl, if_pos hil] at hd
      cases hd
      have hvl : i < vs.length := by
        obtain ⟨v, e1, _⟩ := h3 i c hi
        exact (List.getElem?_eq_some_iff.1 e1).1
      refine ⟨v', by simp [hvl], own_kept hv (fun k e => Below.heap_setCell _ _ _ _ (fun e' => hne (by rw [e]; simp at e'; rw [e']))), fun k e => ?_⟩
      unfold role
      rw [if_pos e]
    · rw [if_neg hij] at hd
      obtain ⟨v, e1, e2, e3⟩ := h3 j d hd
      have hkl : ∀ k, v.ownBlock = some k → k ≠ g ∧ v'.ownBlock ≠ some k := by
        intro k e
        have hl := own_lt e2 e
        refine ⟨fun e' => ?_, fun e' => ?_⟩
        · have := e3 k e
          rw [e', hrg] at this
          simp at this
        · rcases hb k e' with h | h
          · rw [e3 k e] at h; simp at h; omega
          · omega
      refine ⟨v, by rw [List.getElem?_set_ne hij]; exact e1, own_kept e2 (fun k e => ?_), fun k e => ?_⟩
      · rw [Below.heap_setCell _ _ _ _ (hkl k e).1]
        exact hk k j (own_lt e2 e) (e3 k e) (fun h => hij h.symm)
      · unfold role
        rw [if_neg (hkl k e).2]
        exact e3 k e

/-- the document's own dict, in block b -/
def RD (w : World) (r : Roles) (b seed : Nat) (s : Dc.St ByteArray V) (KV : List (ByteArray × Int)) : Prop :=
  (∀ k, r k ≠ (0, 0) → k < w.heap.size) ∧ r b = (5, 0) ∧ ∃ ov yv kv vv, w.heap[b]? = some (.cells #[.int .u64 seed, ov, yv, .int .i64 s.pos, kv, vv] 91 (0, 0)) ∧ Tb w r 0 ov s.old ∧ Tb w r 1 yv s.young ∧
    (Tx w kv (Dc.keys KV) ∧ ∀ k, kv.ownBlock = some k → r k = (6, 0)) ∧ (Ix w vv (KV.map Prod.snd) ∧ ∀ k, vv.ownBlock = some k → r k = (7, 0))
theorem RD.kept {w w' : World} {r : Roles} {b seed : Nat} {s : Dc.St ByteArray V} {KV : List (ByteArray × Int)} (h : RD w r b seed s KV) (hs : w.heap.size ≤ w'.heap.size) (hk : ∀ k, k < w.heap.size → r k ≠ (0, 0) → w'.heap[k]? = w.heap[k]?) : RD w' r b seed s KV := by
  obtain ⟨h1, h2, ov, yv, kv, vv, h3, h4, h5, h6, h7⟩ := h
  refine ⟨fun k hr => Nat.lt_of_lt_of_le (h1 k hr) hs, h2, ov, yv, kv, vv, ?_, h4.kept (fun k hl hr => ⟨hk k hl (fun e => ?_), rfl⟩), h5.kept (fun k hl hr => ⟨hk k hl (fun e => ?_), rfl⟩), ⟨own_kept h6.1 (fun k e => hk k (own_lt h6.1 e) (by rw [h6.2 k e]; simp)), h6.2⟩, ⟨own_kept h7.1 (fun k e => hk k (own_lt h7.1 e) (by rw [h7.2 k e]; simp)), h7.2⟩⟩
  · rw [hk b (h1 b (by rw [h2]; simp)) (by rw [h2]; simp)]; exact h3
  · rw [e] at hr; simp at hr
  · rw [e] at hr; simp at hr
theorem RD.below {w w' : World} {r : Roles} {b seed : Nat} {s : Dc.St ByteArray V} {KV : List (ByteArray × Int)} (h : RD w r b seed s KV) (hb : Below w.heap.size w w') : RD w' r b seed s KV := h.kept hb.size (fun k hk _ => hb.block k hk)
theorem six {w : World} {b : Nat} {v0 v1 v2 v3 v4 v5 : Value} {t : TypeId} (h : w.heap[b]? = some (.cells #[v0, v1, v2, v3, v4, v5] t (0, 0))) :
    w.cell? ⟨b, 0, none⟩ = some v0 ∧ w.cell? ⟨b, 1, none⟩ = some v1 ∧ w.cell? ⟨b, 2, none⟩ = some v2 ∧ w.cell? ⟨b, 3, none⟩ = some v3 ∧ w.cell? ⟨b, 4, none⟩ = some v4 ∧ w.cell? ⟨b, 5, none⟩ = some v5 ∧ ∀ i, w.frozen? ⟨b, i, none⟩ = false := by
  refine ⟨?_, ?_, ?_, ?_, ?_, ?_, fun i => ?_⟩ <;> simp [World.cell?, World.frozen?, h]
theorem txs_len (l : List ByteArray) : (txs l).length = l.length * 1 := by simp [txs]
theorem txs_one {l : List ByteArray} : ∀ u ∈ txs l, u.oneCell' = true := by
  intro u hu
  obtain ⟨x, _, rfl⟩ := List.mem_map.1 hu
  rfl
theorem txs_app (l m : List ByteArray) : txs (l ++ m) = txs l ++ txs m := by simp [txs]
theorem Tx.kept {w w' : World} {v : Value} {l : List ByteArray} (h : Tx w v l) (hk : ∀ k, v.ownBlock = some k → w'.heap[k]? = w.heap[k]?) : Tx w' v l := own_kept h hk
theorem Tx.bel {w w' : World} {v : Value} {l : List ByteArray} (h : Tx w v l) (hb : Below w.heap.size w w') : Tx w' v l := h.kept (fun k hk => hb.block k (own_lt h hk))
theorem Tx.form {w : World} {v : Value} {l : List ByteArray} (h : Tx w v l) : ∃ o c, v = .slice o l.length c ∧ (0 < l.length → ∃ g, o = some ⟨g, 0, none⟩) := by
  rcases h.2 with ⟨e, h0⟩ | ⟨g', c', cur', e, _⟩
  · exact ⟨none, 0, by rw [e, h0], fun hh => by omega⟩
  · exact ⟨_, _, e, fun _ => ⟨_, rfl⟩⟩
theorem Tx.at {w : World} {g n c : Nat} {l : List ByteArray} {j : Nat} {x : ByteArray} (h : Tx w (.slice (some ⟨g, 0, none⟩) n c) l) (hj : l[j]? = some x) : w.cell? ⟨g, j, none⟩ = some (.string x) := by
  have := h.cells (g := g) rfl j (.string x) (by simp [txs, hj])
  rwa [show (⟨g, 0, none⟩ : Addr).add j = ⟨g, j, none⟩ by unfold Addr.add; split <;> simp_all] at this
theorem Chn.tx {w : World} {v : Value} {c : List (ByteArray × V)} (h : Chn w v c) : Tx w v (Dc.keys c) := by
  unfold Tx
  rw [show (Dc.keys c).length = c.length by simp [Dc.keys]]
  exact h
theorem Chn.of {w : World} {v : Value} {c : List (ByteArray × V)} (h : Tx w v (Dc.keys c)) : Chn w v c := by
  unfold Tx at h
  rw [show (Dc.keys c).length = c.length by simp [Dc.keys]] at h
  exact h
end Rd
end Go.Proofs.YtlfpkbjiofelkaaGreat

/-
  Contracts over this program: the document's own hash, a key's place, a chain with a key ahead, where a key stands among all.
-/
namespace Go.Proofs.YtlfpkbjiofelkaaGreat
open Go.RowKit
set_option linter.unusedVariables false
set_option linter.unusedSimpArgs false
set_option maxRecDepth 100000
set_option maxHeartbeats 400000 in
theorem times_any (a b : Nat) (w : World) (ha : (a : Int) ≤ 18446744073709551615) (hb : (b : Int) ≤ 18446744073709551615) :
    Calls Tryz.prog 114 #[.int .u64 a, .int .u64 b] w fun e w' => e = .returned (.int .u64 (Dw.mul a b)) ∧ w' = w := by
  go_enter Tryz.func114, Tryz.ntmps114
  go_wp2
  go_ret
  exact ⟨ret_u (Dw.times_i a b), rfl⟩
set_option maxHeartbeats 400000 in
theorem rhash_any (seed : Nat) (s : ByteArray) (w : World) (hs : s.size ≤ maxLen) (hsd : seed < Dw.M) :
    Calls Tryz.prog 89 #[.int .u64 seed, .string s] w fun e w' => e = .returned (.int .u64 (Dw.hsh seed s.data.toList)) ∧ w' = w := by
  unfold maxLen at hs
  have hb : bits .xor .u64 14695981039346656037 (seed : Int) = (Dw.xr seed Dw.B : Int) := by rw [Dw.xr_comm]; exact Dw.x_is Dw.B_lt hsd
  have hlt := keep (Dw.xr_lt hsd Dw.B_lt)
  go_enter Tryz.func89, Tryz.ntmps89
  go_wp2
  clear hb
  go_loop [5, 11] (fun h i => ∃ k : Nat, k ≤ s.size ∧ i = .int .i64 k ∧ h = .int .u64 (Dw.run (Dw.xr seed Dw.B) (s.data.toList.take k))) (fun _ i => s.size - (intOf i).toNat)
  case atStart => exact ⟨0, Nat.zero_le _, rfl, rfl⟩
  case round =>
    obtain ⟨k, hk, rfl, rfl⟩ := hrel
    by_cases hc : k < s.size
    · have e := keep (Dw.take_run s k (Dw.xr seed Dw.B) hc)
      have hl := Dw.run_lt (s.data.toList.take k) hlt.out
      have e1 := Dw.x_is hl (Dw.byte_lt s[k])
      have e0 := Dw.b_w s[k]
      have b1 := Dw.le_of (Dw.xr_lt hl (Dw.byte_lt s[k]))
      generalize Dw.run (Dw.xr seed Dw.B) (s.data.toList.take k) = X at *
      clear hl
      go_wp2_with fail
      refine (times_any (Dw.xr X s[k].toNat) 1099511628211 _ b1 (by omega)).mono ?_
      rintro e w' ⟨rfl, rfl⟩
      go_wp2
      go_round
      case rel => exact ⟨k + 1, by omega, by go_num, by rw [e.out]; rfl⟩
      case measure => simp [intOf]; omega
    · rw [Dw.take_all s k _ (by omega)]
      have hl := Dw.run_lt s.data.toList hlt.out
      have e1 := Dw.x_is hl (Dw.half_lt hl)
      have b1 := Dw.le_of (Dw.xr_lt hl (Dw.half_lt hl))
      have e2 := Dw.fin_w (Dw.run (Dw.xr seed Dw.B) s.data.toList)
      have e3 := Dw.h_is (Dw.run (Dw.xr seed Dw.B) s.data.toList)
      have e4 := Dw.p_is (Dw.mid (Dw.run (Dw.xr seed Dw.B) s.data.toList))
      have hh : Kept (Dw.hsh seed s.data.toList = Dw.fin (Dw.run (Dw.xr seed Dw.B) s.data.toList)) := keep (by unfold Dw.hsh; rfl)
      have e5 : Dw.mul (Dw.xr (Dw.run (Dw.xr seed Dw.B) s.data.toList) (Dw.half (Dw.run (Dw.xr seed Dw.B) s.data.toList))) 11400714819323198485 = Dw.mid (Dw.run (Dw.xr seed Dw.B) s.data.toList) := by unfold Dw.mid; rfl
      generalize Dw.run (Dw.xr seed Dw.B) s.data.toList = X at *
      have b0 : (X : Int) ≤ 18446744073709551615 := Dw.le_of hl
      have b2 : (Dw.mid X : Int) ≤ 18446744073709551615 := Dw.le_of (Dw.mid_lt X)
      clear hl
      go_wp2_with fail
      refine (times_any (Dw.xr X (Dw.half X)) 11400714819323198485 _ b1 (by omega)).mono ?_
      rintro e w' ⟨rfl, rfl⟩
      rw [e5]
      go_wp2
      go_ret
      exact ⟨ret_u (by rw [hh.out]), rfl⟩
namespace Rd
theorem wp_app_run {P : Program} {w w' : World} {o : Oper} {a : Act} {K : Act → World → Prop} {Q : Exit → Act → World → Prop} (s x : Operand) (t t2 : TypeId)
    (hop : o.op = Op.call { callee := Callee.builtin Builtin.append, args := #[s, x], argTypes := #[t, t2] }) (v v2 v' : Value) (hs : a.eval s = v) (hx : a.eval x = v2)
    (hrun : (Builtin.append_ #[t, t2] o.type #[v, v2]).run P w = .ok v' w') (hK : K (a.put o.dst v') w') : o.wp P a w K Q := by
  unfold Oper.wp
  simp [execOp, hop, resolve, invoke, builtin, hs, hx, hrun, Result.andThen]
  exact hK
theorem wpList_app_run {P : Program} {w w' : World} {ops : Array Oper} {rest : List Oper} {o : Oper} {a : Act} {Q : Exit → Act → World → Prop} (hg : o.guard = none) (s x : Operand) (t t2 : TypeId)
    (hop : o.op = Op.call { callee := Callee.builtin Builtin.append, args := #[s, x], argTypes := #[t, t2] }) (v v2 v' : Value) (hs : a.eval s = v) (hx : a.eval x = v2)
    (hrun : (Builtin.append_ #[t, t2] o.type #[v, v2]).run P w = .ok v' w') (hK : wpList P ops Q rest (a.put o.dst v') w') : wpList P ops Q (o :: rest) a w :=
  wpList_plain hg fun K hK' => wp_app_run s x t t2 hop v v2 v' hs hx hrun (hK' _ _ hK)
def RHashIs (seed : Nat) (h : ByteArray → Nat) : Prop := ∀ k : ByteArray, k.size ≤ maxLen → h k < Dw.M ∧ ∀ w, Calls Tryz.prog 89 #[.int .u64 seed, .string k] w fun e w' => e = .returned (.int .u64 (h k : Nat)) ∧ w' = w
theorem rhs_is (seed : Nat) (hsd : seed < Dw.M) : RHashIs seed (hs seed) := by
  intro k hk
  unfold hs
  exact ⟨Dw.hsh_lt _ _, fun w => rhash_any seed k w hk hsd⟩
set_option maxHeartbeats 1000000 in
theorem place_any {h : ByteArray → Nat} {seed : Nat} (hH : RHashIs seed h) (w : World) (b n cap : Nat) (ao : Option Addr) (key : ByteArray) (hk : key.size ≤ maxLen) (hc : w.cell? ⟨b, 0, none⟩ = some (.int .u64 seed)) (hn : 0 < n) (hm : n ≤ maxLen) :
    Calls Tryz.prog 67 #[.pointer (some ⟨b, 0, none⟩), .slice ao n cap, .string key] w fun e w' => e = .returned (.int .i64 ((h key % n : Nat) : Int)) ∧ w' = w := by
  obtain ⟨hlt, mH⟩ := hH key hk
  have MH := keep (mH w)
  unfold maxLen at hm
  obtain ⟨x, hx⟩ : ∃ x, h key = x := ⟨_, rfl⟩
  rw [hx] at hlt MH ⊢
  have hxl := Dw.le_of hlt
  have hq : x % n < n := Nat.mod_lt _ hn
  have hn1 : IntKind.u64.wrap (n : Int) = (n : Int) := by rw [IntKind.wrap_u64]; omega
  have hr : Int.tmod (x : Int) (n : Int) = ((x % n : Nat) : Int) := by rw [Int.tmod_eq_emod_of_nonneg (by omega)]; omega
  have hr2 : IntKind.i64.wrap ((x % n : Nat) : Int) = ((x % n : Nat) : Int) := by rw [IntKind.wrap_i64]; omega
  have hr3 : IntKind.u64.wrap ((x % n : Nat) : Int) = ((x % n : Nat) : Int) := by rw [IntKind.wrap_u64]; omega
  have hn0 : ¬ (n : Int) = 0 := by omega
  have hn0' : ((n : Int) == 0) = false := beq_eq_false_iff_ne.2 hn0
  clear mH hx hH
  obtain ⟨q, hqe⟩ : ∃ q, x % n = q := ⟨_, rfl⟩
  rw [hqe] at hr hr2 hr3 hq ⊢
  go_enter Tryz.func67, Tryz.ntmps67
  go_wp2_with fail
  refine MH.out.mono ?_
  rintro _ w1 ⟨rfl, rfl⟩
  go_wp2
  go_ret
  exact ⟨by simp [*], rfl⟩
/-- a row of one's own, made since w0 -/
def Mine (w0 w : World) (u : Value) (l : List ByteArray) : Prop := Tx w u l ∧ (∀ k, u.ownBlock = some k → w0.heap.size ≤ k) ∧ Below w0.heap.size w0 w
theorem info_st : (Tryz.prog.info? 9).map (fun i => (i.zero, i.size, i.bytes)) = some (some (.string .empty), 1, 16) := by kernel_rfl
/-- a whole row is laid behind a row of one's own -/
theorem mine_app {w0 w : World} {u v : Value} {l m : List ByteArray} (h : Mine w0 w u l) (hv : Tx w v m) (hn : (l.length + m.length) * 16 ≤ 140737488355328) :
    ∃ v' w', (Builtin.append_ #[43, 43] 43 #[u, v]).run Tryz.prog w = .ok v' w' ∧ Mine w0 w' v' (l ++ m) ∧ w.grownBy w' u.ownBlock := by
  obtain ⟨i0, hi0, hz0, hz1, hz2⟩ := info_parts info_st
  have uT := Tryz.underlying43
  rcases hv.2 with ⟨e1, e2⟩ | ⟨g, cap, cur, e1, e2, e3, rest⟩
  · have hM : m = [] := List.length_eq_zero_iff.1 e2
    subst hM e1
    refine ⟨u, w, ?_, by rw [List.append_nil]; exact h, ⟨rfl, rfl, rfl, Nat.le_refl _, fun _ _ _ => rfl⟩⟩
    exact run_append_owned_none (P := Tryz.prog) (w := w) 0 _ _ 9 i0 1 uT hi0 _ l.length _ h.1
  · subst e1
    obtain ⟨v', W, r1, r2, r3, r4, r5⟩ := run_append_own_at (P := Tryz.prog) w 0 43 43 9 i0 _ 1 16 uT hi0 hz0 hz1 hz2 (by simp [Value.cells]) (by decide) u l.length (txs l) h.1 ⟨g, 0, none⟩ m.length cap (txs m) (txs_len m) (fun j x hj => World.ownsRow.cells hv (g := g) rfl j x hj) txs_one (by unfold maxLen; omega) hn (Nat.zero_le _)
    refine ⟨v', W, r1, ⟨?_, ?_, ?_⟩, r3⟩
    · unfold Tx
      rw [List.length_append, txs_app]
      exact r2
    · intro k hk
      rcases r5 with e | e
      · exact h.2.1 k (by rw [← e]; exact hk)
      · rw [e] at hk; cases hk; exact h.2.2.size
    · exact h.2.2.grown r3 h.2.2.size h.2.1
theorem mine0 (w : World) : Mine w w (.slice none 0 0) [] := ⟨⟨rfl, .inl ⟨rfl, rfl⟩⟩, fun k hk => (by cases hk), Below.refl _ _⟩
theorem mine_slice {w0 w : World} {u : Value} {l : List ByteArray} (h : Mine w0 w u l) : ∃ o n c, u = .slice o n c := by
  obtain ⟨o, c, e, _⟩ := h.1.form
  exact ⟨o, _, c, e⟩
/-- a row of one text, as it is laid by a literal -/
theorem mine_one (w : World) (x : ByteArray) : Mine w (w.alloc (.cells #[.string x] 9)) (.slice (some ⟨w.heap.size, 0, none⟩) 1 1) [x] := by
  refine ⟨⟨rfl, .inr ⟨w.heap.size, 1, #[.string x], rfl, Nat.zero_le _, heap_alloc_new _ _, Nat.le_refl _, by unfold maxLen; omega, rfl, rfl⟩⟩, fun k hk => (by cases hk; exact Nat.le_refl _), (Below.refl _ w).alloc (Nat.le_refl _) _⟩
set_option maxHeartbeats 1000000 in
theorem ahead_any (w : World) (key : ByteArray) (v : Value) (l : List ByteArray) (hv : Tx w v l) (hl : l.length ≤ 8000000000000) :
    Calls Tryz.prog 68 #[.string key, v] w fun e w' => ∃ u, e = .returned u ∧ Mine w w' u (key :: l) := by
  have h1 := mine_one w key
  obtain ⟨W1, hW1⟩ : ∃ W1, w.alloc (.cells #[.string key] 9) = W1 := ⟨_, rfl⟩
  rw [hW1] at h1
  have hb1 : Below w.heap.size w W1 := h1.2.2
  obtain ⟨v2, W2, a1, m1, _⟩ := mine_app h1 (hv.bel hb1) (by simp only [List.length_cons, List.length_nil]; omega)
  obtain ⟨o, n, c, rfl⟩ := mine_slice m1
  obtain ⟨ao, cp, rfl, _⟩ := hv.form
  have A1 := keep a1
  have HD : Kept (∃ u, Ending.returned (.slice o n c) = .returned u ∧ Mine w W2 u (key :: l)) := ⟨_, rfl, m1⟩
  clear h1 hb1 a1 m1 hv hl
  generalize l.length = n1 at *
  go_enter Tryz.func68, Tryz.ntmps68
  go_wp2_with (at_builtin; refine wpList_app_run rfl _ _ _ _ rfl _ _ _ rfl rfl A1.out ?_)
  go_ret
  exact HD.out
end Rd
end Go.Proofs.YtlfpkbjiofelkaaGreat

namespace Go.Proofs.YtlfpkbjiofelkaaGreat
open Go.RowKit Go.Shelf
set_option linter.unusedVariables false
set_option linter.unusedSimpArgs false
set_option maxRecDepth 100000
namespace Rd
variable {V : Type}
section
variable {w w' w1 W : World} {r r' : Roles} {b seed : Nat} {s : Dc.St ByteArray V} {KV KV' : List (ByteArray × Int)}
theorem Tb.slice {t : Nat} {tv : Value} {T : Dc.Tab ByteArray V} (h : Tb w r t tv T) : ∃ ao cap, tv = .slice ao T.length cap := by
  obtain ⟨vs, h1, _⟩ := h
  rcases h1.2 with ⟨rfl, h0⟩ | ⟨g, cap, cur, rfl, _⟩
  · exact ⟨none, 0, by rw [h0]⟩
  · exact ⟨_, _, rfl⟩
theorem Ix.slice {v : Value} {l : List Int} (h : Ix w v l) : ∃ ao cap, v = .slice ao l.length cap := by
  rcases h.2 with ⟨rfl, h0⟩ | ⟨g, cap, cur, rfl, _⟩
  · exact ⟨none, 0, by rw [h0]⟩
  · exact ⟨_, _, rfl⟩
/-- all parts with their cells -/
theorem RD.parts (h : RD w r b seed s KV) : ∃ ao ca bo cb ko kc vo vc, w.heap[b]? = some (.cells #[.int .u64 seed, .slice ao s.old.length ca, .slice bo s.young.length cb, .int .i64 s.pos, .slice ko KV.length kc, .slice vo KV.length vc] 91 (0, 0)) ∧ Tb w r 0 (.slice ao s.old.length ca) s.old ∧ Tb w r 1 (.slice bo s.young.length cb) s.young ∧ Tx w (.slice ko KV.length kc) (Dc.keys KV) ∧ Ix w (.slice vo KV.length vc) (KV.map Prod.snd) := by
  obtain ⟨h1, h2, ov, yv, kv, vv, h3, h4, h5, h6, h7⟩ := h
  obtain ⟨ao, ca, rfl⟩ := h4.slice
  obtain ⟨bo, cb, rfl⟩ := h5.slice
  obtain ⟨ko, kc, e, _⟩ := h6.1.form
  obtain ⟨vo, vc, e'⟩ := h7.1.slice
  rw [show (Dc.keys KV).length = KV.length by simp [Dc.keys]] at e
  rw [List.length_map] at e'
  subst e e'
  exact ⟨ao, ca, bo, cb, ko, kc, vo, vc, h3, h4, h5, h6.1, h7.1⟩
theorem RD.lt (h : RD w r b seed s KV) : b < w.heap.size := h.1 b (by rw [h.2.1]; simp)
theorem RD.free (h : RD w r b seed s KV) (i : Nat) : w.frozen? ⟨b, i, none⟩ = false := by
  obtain ⟨ao, ca, bo, cb, ko, kc, vo, vc, h3, _⟩ := h.parts
  simp [World.frozen?, h3]
/-- the struct alone is written: its place -/
theorem RD.setp (h : RD w r b seed s KV) (p : Nat) (hW : w.setCell ⟨b, 3, none⟩ (.int .i64 (p : Int)) = W) : RD W r b seed { s with pos := p } KV ∧ Fr w r W r ∧ Only b w W := by
  obtain ⟨h1, h2, ov, yv, kv, vv, h3, h4, h5, h6, h7⟩ := h
  have ho : Only b w W := by rw [← hW]; exact ⟨⟨rfl, rfl, rfl⟩, by simp [World.setCell], fun k hk => Below.heap_setCell _ _ _ _ hk⟩
  have hk : ∀ k, (r k).1 ≠ 5 → W.heap[k]? = w.heap[k]? := fun k hn => ho.2.2 k (fun e => hn (by rw [e, h2]))
  refine ⟨⟨fun k hr => by rw [ho.2.1]; exact h1 k hr, h2, ov, yv, kv, vv, by rw [← hW]; exact cells_setCell h3, h4.kept (fun k hl hr => ⟨hk k (by rcases hr with e | e <;> rw [e] <;> decide), rfl⟩), h5.kept (fun k hl hr => ⟨hk k (by rcases hr with e | e <;> rw [e] <;> decide), rfl⟩), ⟨own_kept h6.1 (fun k e => hk k (by rw [h6.2 k e]; decide)), h6.2⟩, ⟨own_kept h7.1 (fun k e => hk k (by rw [h7.2 k e]; decide)), h7.2⟩⟩, ?_, ho⟩
  exact ⟨ho.1, by rw [ho.2.1]; exact Nat.le_refl _, fun k hk0 hr => ⟨ho.2.2 k (fun e => by rw [e, h2] at hr; cases hr), hr⟩⟩
/-- a table turns -/
theorem RD.tab0 (h : RD w r b seed s KV) {T' : Dc.Tab ByteArray V} {ov : Value} (hov : w.cell? ⟨b, 1, none⟩ = some ov) (hs : w.heap.size ≤ w'.heap.size) (hlt : ∀ k, r' k ≠ (0, 0) → k < w'.heap.size) (hk : ∀ k, k < w.heap.size → (r k).1 ≠ 0 → (r k).1 ≠ 1 → (r k).1 ≠ 3 → w'.heap[k]? = w.heap[k]? ∧ r' k = r k) (hT : Tb w' r' 0 ov T') : RD w' r' b seed { s with old := T' } KV := by
  obtain ⟨h1, h2, ov', yv, kv, vv, h3, h4, h5, h6, h7⟩ := h
  obtain ⟨c0, c1, c2, c3, c4, c5, _⟩ := six h3
  rw [c1] at hov
  cases hov
  have kb := hk b (h1 b (by rw [h2]; simp)) (by rw [h2]; decide) (by rw [h2]; decide) (by rw [h2]; decide)
  have kk := fun k e => hk k (own_lt h6.1 e) (by rw [h6.2 k e]; decide) (by rw [h6.2 k e]; decide) (by rw [h6.2 k e]; decide)
  have kv' := fun k e => hk k (own_lt h7.1 e) (by rw [h7.2 k e]; decide) (by rw [h7.2 k e]; decide) (by rw [h7.2 k e]; decide)
  exact ⟨hlt, kb.2.trans h2, ov, yv, kv, vv, kb.1.trans h3, hT, h5.kept (fun k hl hr => hk k hl (by rcases hr with e | e <;> rw [e] <;> decide) (by rcases hr with e | e <;> rw [e] <;> decide) (by rcases hr with e | e <;> rw [e] <;> decide)), ⟨own_kept h6.1 (fun k e => (kk k e).1), fun k e => (kk k e).2.trans (h6.2 k e)⟩, ⟨own_kept h7.1 (fun k e => (kv' k e).1), fun k e => (kv' k e).2.trans (h7.2 k e)⟩⟩
theorem RD.tab1 (h : RD w r b seed s KV) {T' : Dc.Tab ByteArray V} {yv : Value} (hyv : w.cell? ⟨b, 2, none⟩ = some yv) (hs : w.heap.size ≤ w'.heap.size) (hlt : ∀ k, r' k ≠ (0, 0) → k < w'.heap.size) (hk : ∀ k, k < w.heap.size → (r k).1 ≠ 0 → (r k).1 ≠ 2 → (r k).1 ≠ 4 → w'.heap[k]? = w.heap[k]? ∧ r' k = r k) (hT : Tb w' r' 1 yv T') : RD w' r' b seed { s with young := T' } KV := by
  obtain ⟨h1, h2, ov, yv', kv, vv, h3, h4, h5, h6, h7⟩ := h
  obtain ⟨c0, c1, c2, c3, c4, c5, _⟩ := six h3
  rw [c2] at hyv
  cases hyv
  have kb := hk b (h1 b (by rw [h2]; simp)) (by rw [h2]; decide) (by rw [h2]; decide) (by rw [h2]; decide)
  have kk := fun k e => hk k (own_lt h6.1 e) (by rw [h6.2 k e]; decide) (by rw [h6.2 k e]; decide) (by rw [h6.2 k e]; decide)
  have kv' := fun k e => hk k (own_lt h7.1 e) (by rw [h7.2 k e]; decide) (by rw [h7.2 k e]; decide) (by rw [h7.2 k e]; decide)
  exact ⟨hlt, kb.2.trans h2, ov, yv, kv, vv, kb.1.trans h3, h4.kept (fun k hl hr => hk k hl (by rcases hr with e | e <;> rw [e] <;> decide) (by rcases hr with e | e <;> rw [e] <;> decide) (by rcases hr with e | e <;> rw [e] <;> decide)), hT, ⟨own_kept h6.1 (fun k e => (kk k e).1), fun k e => (kk k e).2.trans (h6.2 k e)⟩, ⟨own_kept h7.1 (fun k e => (kv' k e).1), fun k e => (kv' k e).2.trans (h7.2 k e)⟩⟩
/-- what a bucket's change leaves -/
def Chg (t : Nat) (w : World) (r : Roles) (W : World) (r' : Roles) : Prop := Fr w r W r' ∧ ∀ k, k < w.heap.size → (r k).1 ≠ 1 + t → (r k).1 ≠ 3 + t → W.heap[k]? = w.heap[k]? ∧ r' k = r k
/-- a bucket is written: its new row was made meanwhile, or is none -/
theorem Tb.set {t g n cap i : Nat} {T : Dc.Tab ByteArray V} {c c' : List (ByteArray × V)} {u : Value} (hlt : ∀ k, r k ≠ (0, 0) → k < w.heap.size) (h : Tb w r t (.slice (some ⟨g, 0, none⟩) n cap) T) (hi : T[i]? = some c) (hb : Below w.heap.size w w1) (hu : Tx w1 u (Dc.keys c')) (hn : ∀ k, u.ownBlock = some k → w.heap.size ≤ k) (hW : w1.setCell ⟨g, i, none⟩ u = W) :
    Tb W (role r u (3 + t, i)) t (.slice (some ⟨g, 0, none⟩) n cap) (T.set i c') ∧ Chg t w r W (role r u (3 + t, i)) ∧ (∀ k, role r u (3 + t, i) k ≠ (0, 0) → k < W.heap.size) := by
  have h2 := h
  obtain ⟨vs, q1, q2, q3⟩ := h2
  have hrg := q2 g rfl
  have hgl := own_lt q1 (k := g) rfl
  have hz : ∀ k, k < w.heap.size → role r u (3 + t, i) k = r k := fun k hk => by unfold role; rw [if_neg (fun e => by have := hn k e; omega)]
  have hs : W.heap.size = w1.heap.size := by rw [← hW]; simp [World.setCell]
  refine ⟨by rw [← hW]; exact h.put hi (hb.block g hgl) (fun k j hl _ _ => hb.block k hl) (Chn.of hu) (fun k e => .inr (hn k e)), ⟨⟨by rw [← hW]; exact ⟨hb.os, hb.tape, hb.output⟩, by rw [hs]; exact hb.size, fun k hk hr => ⟨?_, (hz k hk).trans hr⟩⟩, fun k hk h1 h3 => ⟨?_, hz k hk⟩⟩, fun k hr => ?_⟩
  · rw [← hW, Below.heap_setCell _ _ _ _ (fun e => by rw [e, hrg] at hr; simp at hr)]; exact hb.block k hk
  · rw [← hW, Below.heap_setCell _ _ _ _ (fun e => h1 (by rw [e, hrg]))]; exact hb.block k hk
  · rw [hs]
    unfold role at hr
    split at hr
    · rename_i e; exact own_lt hu e
    · exact Nat.lt_of_lt_of_le (hlt k hr) hb.size
theorem RD.put1 {g n cap i : Nat} {c c' : List (ByteArray × V)} {u : Value} (h : RD w r b seed s KV) (hy : w.cell? ⟨b, 2, none⟩ = some (.slice (some ⟨g, 0, none⟩) n cap)) (hT : Tb w r 1 (.slice (some ⟨g, 0, none⟩) n cap) s.young) (hi : s.young[i]? = some c) (hb : Below w.heap.size w w1) (hu : Tx w1 u (Dc.keys c')) (hn : ∀ k, u.ownBlock = some k → w.heap.size ≤ k) (hW : w1.setCell ⟨g, i, none⟩ u = W) :
    RD W (role r u (4, i)) b seed { s with young := s.young.set i c' } KV ∧ Chg 1 w r W (role r u (4, i)) := by
  obtain ⟨t1, t2, t3⟩ := Tb.set h.1 hT hi hb hu hn hW
  exact ⟨h.tab1 hy t2.1.2.1 t3 (fun k hk h0 h2 h4 => t2.2 k hk h2 h4) t1, t2⟩
theorem RD.put0 {g n cap i : Nat} {c c' : List (ByteArray × V)} {u : Value} (h : RD w r b seed s KV) (hy : w.cell? ⟨b, 1, none⟩ = some (.slice (some ⟨g, 0, none⟩) n cap)) (hT : Tb w r 0 (.slice (some ⟨g, 0, none⟩) n cap) s.old) (hi : s.old[i]? = some c) (hb : Below w.heap.size w w1) (hu : Tx w1 u (Dc.keys c')) (hn : ∀ k, u.ownBlock = some k → w.heap.size ≤ k) (hW : w1.setCell ⟨g, i, none⟩ u = W) :
    RD W (role r u (3, i)) b seed { s with old := s.old.set i c' } KV ∧ Chg 0 w r W (role r u (3, i)) := by
  obtain ⟨t1, t2, t3⟩ := Tb.set h.1 hT hi hb hu hn hW
  exact ⟨h.tab0 hy t2.1.2.1 t3 (fun k hk h0 h2 h4 => t2.2 k hk h2 h4) t1, t2⟩
theorem Tb.shift {w w' : World} {r : Roles} {tv : Value} {T : Dc.Tab ByteArray V} (h : Tb w r 1 tv T) (hk : ∀ k, k < w.heap.size → ((r k).1 = 2 ∨ (r k).1 = 4) → w'.heap[k]? = w.heap[k]?) : Tb w' (shiftR r) 0 tv T := by
  obtain ⟨vs, h1, h2, h3⟩ := h
  refine ⟨vs, own_kept h1 (fun k e => hk k (own_lt h1 e) (.inl (by rw [h2 k e]))), fun k e => ?_, fun i c hc => ?_⟩
  · unfold shiftR; rw [h2 k e]; simp
  · obtain ⟨v, e1, e2, e3⟩ := h3 i c hc
    refine ⟨v, e1, own_kept e2 (fun k e => hk k (own_lt e2 e) (.inr (by rw [e3 k e]))), fun k e => ?_⟩
    unfold shiftR; rw [e3 k e]; simp
theorem Tb.new {t : Nat} : Tb (V := V) w r t (.slice none 0 0) [] := ⟨[], ⟨rfl, .inl ⟨rfl, rfl⟩⟩, (fun k e => by cases e), (fun i c hc => by simp at hc)⟩
/-- young becomes old -/
theorem RD.shift (h : RD w r b seed s KV) {yv : Value} (hy : w.cell? ⟨b, 2, none⟩ = some yv) (hW : ((w.setCell ⟨b, 1, none⟩ yv).setCell ⟨b, 2, none⟩ (.slice none 0 0)).setCell ⟨b, 3, none⟩ (.int .i64 0) = W) : RD W (shiftR r) b seed { old := s.young, young := [], pos := 0 } KV ∧ Fr w r W (shiftR r) := by
  obtain ⟨h1, h2, ov, yv', kv, vv, h3, h4, h5, h6, h7⟩ := h
  obtain ⟨c0, c1, c2, c3, c4, c5, _⟩ := six h3
  rw [c2] at hy
  cases hy
  have ho : Only b w W := by rw [← hW]; exact ⟨⟨rfl, rfl, rfl⟩, by simp [World.setCell], fun k hk => by rw [Below.heap_setCell _ _ _ _ hk, Below.heap_setCell _ _ _ _ hk, Below.heap_setCell _ _ _ _ hk]⟩
  have hk : ∀ k, (r k).1 ≠ 5 → W.heap[k]? = w.heap[k]? := fun k hn => ho.2.2 k (fun e => hn (by rw [e, h2]))
  refine ⟨⟨fun k hr => by rw [ho.2.1]; exact h1 k (shiftR_ne hr), by unfold shiftR; rw [h2]; simp, yv, .slice none 0 0, kv, vv, by rw [← hW]; exact cells_setCell (cells_setCell (cells_setCell h3)), h5.shift (fun k hl hr => hk k (by rcases hr with e | e <;> rw [e] <;> decide)), Tb.new, ⟨own_kept h6.1 (fun k e => hk k (by rw [h6.2 k e]; decide)), fun k e => by unfold shiftR; rw [h6.2 k e]; simp⟩, ⟨own_kept h7.1 (fun k e => hk k (by rw [h7.2 k e]; decide)), fun k e => by unfold shiftR; rw [h7.2 k e]; simp⟩⟩, ?_⟩
  exact ⟨ho.1, by rw [ho.2.1]; exact Nat.le_refl _, fun k hk0 hr => ⟨ho.2.2 k (fun e => by rw [e, h2] at hr; cases hr), shiftR_zero hr⟩⟩
end
end Rd
end Go.Proofs.YtlfpkbjiofelkaaGreat
