/-
  What a row's list of the library's tables gives.
-/
import Derived.Test.YtoalnfkjpdgbiaaDoorRpBids
import Derived.Test.YtoalnfkjpdgbiaaDoorRpTexts
import Derived.Test.YtoalnfkjpdgbiaaDoorRows
import Derived.Lib.LaidU8T
import Derived.Shelf.Vars
namespace Go.Proofs.YtoalnfkjpdgbiaaDoor
set_option linter.unusedVariables false
theorem pow_data : (Rows.laid_internal_strconv_uint64pow10 : DataW Unit) = Lib.tabData .u64 Lib.pow10Tab := by kernel_rfl
theorem first_data : (Rows.laid_unicode_utf8_first : DataW Unit) = Lib.firstData := by kernel_rfl
theorem accept_data : (Rows.laid_unicode_utf8_acceptRanges : DataW Unit) = Lib.acceptData := by kernel_rfl
theorem gTabType : (Tryd.prog.globals[3]?).map (·.type) = some 151 := by kernel_rfl
theorem tab_of_reads {W : World} (h : Lib.VarReads Tryd.prog W "internal/strconv.uint64pow10" Rows.laid_internal_strconv_uint64pow10) : Tab W := by
  obtain ⟨g, t, cs, fuel, p, hg, ht, hv, hd⟩ := h
  obtain rfl := Option.some.inj (gTab.symm.trans hg)
  obtain rfl := Option.some.inj (gTabType.symm.trans ht)
  rw [pow_data] at hd
  show World.var? _ _ _ = _
  rw [hv, ← Lib.cells_of_tab Tryd.underlying151 Tryd.underlying92 (by kernel_rfl) (by kernel_rfl) hd]
def u8ren : Go.Shelf.Ren := ⟨fun n => n, fun | 5 => 5 | 119 => 146 | 138 => 148 | 139 => 149 | n => n, fun | 3 => 1 | 4 => 2 | n => n⟩
theorem u8_types : U8Types Tryd.prog u8ren := ⟨by kernel_rfl, by kernel_rfl, by kernel_rfl, by kernel_rfl⟩
theorem u8_extra : U8Extra Tryd.prog u8ren := ⟨by kernel_rfl, by kernel_rfl, by kernel_rfl, by kernel_rfl, by kernel_rfl, by kernel_rfl, by kernel_rfl⟩
theorem utf_of_reads {W : World} (h3 : Lib.VarReads Tryd.prog W "unicode/utf8.first" Rows.laid_unicode_utf8_first) (h4 : Lib.VarReads Tryd.prog W "unicode/utf8.acceptRanges" Rows.laid_unicode_utf8_acceptRanges) :
    Lib.Utf8Tabs 1 2 W := by
  rw [first_data] at h3
  rw [accept_data] at h4
  exact utf8Tabs_of_readsT u8_types u8_extra h3 h4
theorem maxlen_of {W : World} (hsh : W.ShapedOpen Tryd.prog) : ∃ m, W.cell? ⟨0, 0, none⟩ = some (.int .i64 m) :=
  cell_of_shapedOpen_int (P := Tryd.prog) (g := 0) (t := 3) (zero := #[.int .i64 0]) hsh (of_decide_eq_true (by kernel_rfl)) (by kernel_rfl) rfl (by kernel_rfl) (by kernel_rfl) Tryd.underlying3
end Go.Proofs.YtoalnfkjpdgbiaaDoor
