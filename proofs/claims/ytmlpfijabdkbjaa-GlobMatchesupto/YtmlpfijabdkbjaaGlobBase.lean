/-
  Plain mathematics on where a set ends, and how worlds follow one another, for the document's own answer.
-/
import Derived.Test.YtmlpfijabdkbjaaGlobReads
import Derived.Below
namespace Go.Proofs.Ytmlpfijabdkbjaa
open Go.RowKit
namespace Gb
theorem cutEnd (s : ByteArray) (n : Nat) (h : s.size ≤ n) : setCut (D s n) = ([], []) := by rw [D_nil s n h]; rfl
theorem cutClose {s : ByteArray} {n : Nat} (h : n < s.size) (hb : (s[n].toNat : Int) = 93) : setCut (D s n) = ([], D s (n + 1)) := by
  rw [D_cons s n h, byte_is (b := 93) hb]
  cases D s (n + 1) <;> rfl
end Gb
theorem belTrans {w a b : World} (h : Below w.heap.size w a) (k : Below a.heap.size a b) : Below w.heap.size w b := h.trans (k.mono h.size)
theorem farCell (w : World) (p a : Addr) (v : Value) (h : p.block ≠ a.block) : (w.setCell p v).cell? a = w.cell? a := World.cell?_setCell_other w p a v (fun e => h (by rw [e]))
end Go.Proofs.Ytmlpfijabdkbjaa
