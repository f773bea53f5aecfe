/-
  All names, rising; and what the document's own way of finding the least that is greater tells.
-/
import Derived.Test.YtaflggjgndkdlaaDoorVbRef4
namespace Go.Proofs.YtaflggjgndkdlaaDoor
open Go.RowKit
set_option linter.unusedVariables false
def srtL : List (List UInt8) := [
  [65, 80, 80, 69, 78, 68],
  [66, 73, 84, 67, 79, 85, 78, 84],
  [67, 79, 80, 89],
  [68, 66, 83, 73, 90, 69],
  [68, 69, 67, 82],
  [68, 69, 67, 82, 66, 89],
  [68, 69, 76],
  [68, 73, 83, 67, 65, 82, 68],
  [69, 67, 72, 79],
  [69, 88, 69, 67],
  [69, 88, 73, 83, 84, 83],
  [69, 88, 80, 73, 82, 69],
  [69, 88, 80, 73, 82, 69, 65, 84],
  [70, 76, 85, 83, 72, 65, 76, 76],
  [71, 69, 84],
  [71, 69, 84, 66, 73, 84],
  [71, 69, 84, 68, 69, 76],
  [71, 69, 84, 82, 65, 78, 71, 69],
  [71, 69, 84, 83, 69, 84],
  [72, 68, 69, 76],
  [72, 69, 88, 73, 83, 84, 83],
  [72, 71, 69, 84],
  [72, 71, 69, 84, 65, 76, 76],
  [72, 73, 78, 67, 82, 66, 89],
  [72, 73, 78, 67, 82, 66, 89, 70, 76, 79, 65, 84],
  [72, 75, 69, 89, 83],
  [72, 76, 69, 78],
  [72, 77, 71, 69, 84],
  [72, 82, 65, 78, 68, 70, 73, 69, 76, 68],
  [72, 83, 67, 65, 78],
  [72, 83, 69, 84],
  [72, 83, 69, 84, 78, 88],
  [72, 83, 84, 82, 76, 69, 78],
  [72, 86, 65, 76, 83],
  [73, 78, 67, 82],
  [73, 78, 67, 82, 66, 89],
  [73, 78, 67, 82, 66, 89, 70, 76, 79, 65, 84],
  [75, 69, 89, 83],
  [76, 73, 78, 68, 69, 88],
  [76, 73, 78, 83, 69, 82, 84],
  [76, 76, 69, 78],
  [76, 77, 79, 86, 69],
  [76, 80, 79, 80],
  [76, 80, 79, 83],
  [76, 80, 85, 83, 72],
  [76, 80, 85, 83, 72, 88],
  [76, 82, 65, 78, 71, 69],
  [76, 82, 69, 77],
  [76, 83, 69, 84],
  [76, 84, 82, 73, 77],
  [77, 71, 69, 84],
  [77, 83, 69, 84],
  [77, 83, 69, 84, 78, 88],
  [77, 85, 76, 84, 73],
  [80, 69, 82, 83, 73, 83, 84],
  [80, 69, 88, 80, 73, 82, 69],
  [80, 69, 88, 80, 73, 82, 69, 65, 84],
  [80, 73, 78, 71],
  [80, 83, 85, 66, 83, 67, 82, 73, 66, 69],
  [80, 84, 84, 76],
  [80, 85, 66, 76, 73, 83, 72],
  [80, 85, 78, 83, 85, 66, 83, 67, 82, 73, 66, 69],
  [81, 85, 73, 84],
  [82, 65, 78, 68, 79, 77, 75, 69, 89],
  [82, 69, 78, 65, 77, 69],
  [82, 69, 78, 65, 77, 69, 78, 88],
  [82, 80, 79, 80],
  [82, 80, 85, 83, 72],
  [82, 80, 85, 83, 72, 88],
  [83, 65, 68, 68],
  [83, 67, 65, 78],
  [83, 67, 65, 82, 68],
  [83, 68, 73, 70, 70],
  [83, 68, 73, 70, 70, 83, 84, 79, 82, 69],
  [83, 69, 84],
  [83, 69, 84, 66, 73, 84],
  [83, 69, 84, 78, 88],
  [83, 69, 84, 82, 65, 78, 71, 69],
  [83, 73, 78, 84, 69, 82],
  [83, 73, 78, 84, 69, 82, 83, 84, 79, 82, 69],
  [83, 73, 83, 77, 69, 77, 66, 69, 82],
  [83, 77, 69, 77, 66, 69, 82, 83],
  [83, 77, 73, 83, 77, 69, 77, 66, 69, 82],
  [83, 77, 79, 86, 69],
  [83, 80, 79, 80],
  [83, 82, 65, 78, 68, 77, 69, 77, 66, 69, 82],
  [83, 82, 69, 77],
  [83, 83, 67, 65, 78],
  [83, 84, 82, 76, 69, 78],
  [83, 85, 66, 83, 67, 82, 73, 66, 69],
  [83, 85, 78, 73, 79, 78],
  [83, 85, 78, 73, 79, 78, 83, 84, 79, 82, 69],
  [84, 79, 85, 67, 72],
  [84, 84, 76],
  [84, 89, 80, 69],
  [85, 78, 83, 85, 66, 83, 67, 82, 73, 66, 69],
  [85, 78, 87, 65, 84, 67, 72],
  [87, 65, 84, 67, 72],
  [90, 65, 68, 68],
  [90, 67, 65, 82, 68],
  [90, 67, 79, 85, 78, 84],
  [90, 73, 78, 67, 82, 66, 89],
  [90, 77, 83, 67, 79, 82, 69],
  [90, 80, 79, 80, 77, 65, 88],
  [90, 80, 79, 80, 77, 73, 78],
  [90, 82, 65, 78, 71, 69],
  [90, 82, 65, 78, 71, 69, 66, 89, 83, 67, 79, 82, 69],
  [90, 82, 65, 78, 75],
  [90, 82, 69, 77],
  [90, 82, 69, 77, 82, 65, 78, 71, 69, 66, 89, 82, 65, 78, 75],
  [90, 82, 69, 77, 82, 65, 78, 71, 69, 66, 89, 83, 67, 79, 82, 69],
  [90, 82, 69, 86, 82, 65, 78, 75],
  [90, 83, 67, 79, 82, 69]]
def namesL : List (List UInt8) := Vb.kinL.flatMap fun q => Vb.pieces q.1
def stepL (last acc x : List UInt8) : List UInt8 := if Op.bytesLess x last then acc else if x == last then acc else if acc == [] then x else if Op.bytesLess x acc then x else acc
def accL (last : List UInt8) (i : Nat) : List UInt8 := (namesL.take i).foldl (stepL last) []
def lastL (k : Nat) : List UInt8 := match k with | 0 => [] | k + 1 => srtL.getD k []
set_option maxRecDepth 100000 in
theorem srt_len : srtL.length = 113 := by decide +kernel
set_option maxRecDepth 100000 in
theorem names_len : namesL.length = 113 := by decide +kernel
set_option maxRecDepth 100000 in
theorem least_ok : (List.range 113).all (fun k => accL (lastL k) 113 == srtL.getD k []) = true := by decide +kernel
theorem acc_succ {last x : List UInt8} {i : Nat} (h : namesL[i]? = some x) : accL last (i + 1) = stepL last (accL last i) x := by
  unfold accL
  rw [List.take_add_one, h, List.foldl_append]
  rfl
theorem rows_names : (rowsK 35).map (fun x => x.1) = namesL.map Vb.ofL := by
  unfold rowsK namesL
  rw [List.take_of_length_le (by rw [Vb.kin_len]; exact Nat.le_refl _), List.map_flatMap, List.map_flatMap]
  congr 1
  funext q
  rw [List.map_map]
  rfl
theorem row_name {i : Nat} {u : ByteArray} {r : Vb.Row} (h : (rowsK 35)[i]? = some (u, r)) : ∃ x, namesL[i]? = some x ∧ u = Vb.ofL x := by
  have h1 : ((rowsK 35).map (fun x => x.1))[i]? = some u := by rw [List.getElem?_map, h]; rfl
  rw [rows_names, List.getElem?_map] at h1
  cases e : namesL[i]? with
  | none => rw [e] at h1; cases h1
  | some x => rw [e] at h1; exact ⟨x, rfl, (Option.some.inj h1).symm⟩
/-- the first k names, rising -/
def srtK (k : Nat) : List ByteArray := (srtL.take k).map Vb.ofL
theorem srtK_succ {k : Nat} (hk : k < 113) : srtK (k + 1) = srtK k ++ [Vb.ofL (srtL.getD k [])] := by
  unfold srtK
  rw [List.take_add_one, List.getD_eq_getElem?_getD, List.getElem?_eq_getElem (by rw [srt_len]; exact hk), List.map_append]
  rfl
theorem srtK_len {k : Nat} (hk : k ≤ 113) : (srtK k).length = k := by unfold srtK; rw [List.length_map, List.length_take, srt_len]; omega
end Go.Proofs.YtaflggjgndkdlaaDoor
