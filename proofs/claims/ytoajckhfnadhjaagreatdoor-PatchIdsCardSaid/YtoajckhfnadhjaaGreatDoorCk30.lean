/- Package patch's calls do what they are to do, of light patches; awake. What the rows' laid variables give: the library's powers of ten, both errors; a world that has them. What the laid variables of layer 12's rows give: the library's powers of ten, both errors, unicode/utf8's two tables; a world that has them. -/
import Derived.ChangeOld
import Derived.SliceStrings
import Derived.WideShapes
import Derived.Deep.Slices
import Derived.Deep.Fields
import Derived.ChangeSame
import Derived.ChangeArms
import Derived.SizedLaws
import Derived.BigRegion
import Derived.Deep.RegionWith
import Derived.BigQuiet
import Derived.Deep.QuietTactic
import Derived.Handy
import Derived.Deep.CutRange
import Derived.Deep.RegionLaw
import Derived.Lib.QuietBelow
import Derived.Test.YtoajckhfnadhjaaGreatDoorRows
import Derived.Stop.LaidErr
import Derived.LaidMore
import Derived.MakeChecks
import Derived.Test.YtoajckhfnadhjaaGreatDoorShelf
import Derived.Lib.LaidU8
import Derived.PinnedBridge
import Derived.Lay
import Derived.Test.YtoajckhfnadhjaaGreatDoorCk26
import Derived.Test.YtoajckhfnadhjaaGreatDoorCk27
import Derived.Test.YtoajckhfnadhjaaGreatDoorCk28
import Derived.Test.YtoajckhfnadhjaaGreatDoorCk29
namespace Go.Proofs.YtoajckhfnadhjaaGreatDoor
open Go.RowKit
set_option linter.unusedVariables false

theorem lt_ck {x : Ptm} (h : x.Lt) (k : x.In) : x.Ck := by
  have h1 := h.name
  have h2 := h.few
  have h3 := h.many
  exact ⟨by omega, by omega, fun d hd => by have := h.deps d hd; omega, by omega, fun o ho => lt_sz (h.ops o ho) (k.ops o ho)⟩
theorem pat_c : PatC where
  check := fun x w ox lx ix hT hN => pcheck_any x w ox (lt_ck lx ix) hT _ rfl
  put := fun x w ox lx ix hT hN => pput_any x w ox (lt_ck lx ix) hT hN (light_bytes lx)
  get := fun s w hs hT hN => pget_any s w hs hT hN
  same := fun x y w ox oy lx ly ix iy => psame_any x y w ox oy (lt_ck lx ix) (lt_ck ly iy) _ rfl
  copy := fun x w ox lx ix => pcopy_any x w ox (by have := lx.few; omega) (by have := lx.many; omega) (fun o ho => by
    have h1 := (lx.ops o ho).few
    have h2 := lt_lines (lx.ops o ho)
    exact ⟨by omega, by omega⟩)
  made := fun x w ox lx ix hf => pmade_any x w ox (by have := lx.many; omega) hf (light_fit lx ix).2.1
  named := fun x w ox lx ix => pnamed_any x w ox (by have := lx.many; omega) (fun o ho => by
    have h1 := (lx.ops o ho).few
    omega)
theorem aw_p : AwP := pataw_any pat_c
end Go.Proofs.YtoajckhfnadhjaaGreatDoor
namespace Go.Proofs.YtoajckhfnadhjaaGreatDoor
open Go.RowKit Go.ChangeShapes
set_option linter.unusedVariables false

theorem star_err : "*" ++ "errors.errorString" = "*errors.errorString" := by decide
theorem row_err (u : TypeId) (h : Tryz.prog.typeName? 3 u = some "*errors.errorString") : u = 207 :=
  typeName_ptr_named (nm := "errors.errorString") (by rw [star_err]; kernel_rfl) (by kernel_rfl) (by decide) u (by rw [star_err]; exact h)
theorem err_of {n : String} {text : List UInt8} {r : List (String × DataW Unit)} {W : World} {g : Nat} (hg : Tryz.prog.globalNamed n = some g) (ht : (Tryz.prog.globals[g]?).map (·.type) = some 104)
    (h : laidMet Tryz.prog ((n, .iface "*errors.errorString" (.ptr (.agg [.lit (.string text)]))) :: r) W) : ErrV W g := by
  obtain ⟨a, s, hv, _⟩ := laid_sentinel h hg ht Tryz.underlying104 row_err Tryz.underlying207 Tryz.underlying209 rfl rfl Tryz.underlying9 (by kernel_rfl) (by kernel_rfl)
  exact ⟨_, by have h0 := World.var?_cell hg hv 0; simpa using h0, .inr ⟨_, _, rfl⟩⟩
end Go.Proofs.YtoajckhfnadhjaaGreatDoor
namespace Go.Proofs.YtoajckhfnadhjaaGreatDoor
open Go.RowKit Go.ChangeShapes
set_option linter.unusedVariables false

/-- The laid variables of this layer's rows. -/
def laidOps : List (String × DataW Unit) := [("math/bits.deBruijn32tab", Rows.laid_math_bits_deBruijn32tab), ("math/bits.deBruijn64tab", Rows.laid_math_bits_deBruijn64tab), ("internal/strconv.uint64pow10", Rows.laid_internal_strconv_uint64pow10), ("unicode/utf8.acceptRanges", Rows.laid_unicode_utf8_acceptRanges), ("strconv.ErrRange", Rows.laid_strconv_ErrRange), ("strconv.ErrSyntax", Rows.laid_strconv_ErrSyntax), ("unicode/utf8.first", Rows.laid_unicode_utf8_first)]
theorem ops_extra : Proofs.U8Extra Tryz.prog Tryz.lays260_ren := ⟨by kernel_rfl, by kernel_rfl, by kernel_rfl, by kernel_rfl, by kernel_rfl, by kernel_rfl, by kernel_rfl⟩
theorem ops_accept : (Rows.laid_unicode_utf8_acceptRanges : DataW Unit) = Lib.acceptData := by kernel_rfl
theorem ops_of {W : World} (h : laidMetH Tryz.prog laidOps W) : Nums W ∧ Tabs W := by
  rw [MakeChecks.laidMetH_plain _ _ _ (by kernel_rfl)] at h
  unfold laidOps at h
  have hf := Lib.laidMet.reads h (.tail _ (.tail _ (.tail _ (.tail _ (.tail _ (.tail _ (.head _)))))))
  have ha := Lib.laidMet.reads h (.tail _ (.tail _ (.tail _ (.head _))))
  have h2 := h.tail.tail
  rw [show (Rows.laid_internal_strconv_uint64pow10 : DataW Unit) = Lib.tabData .u64 Lib.pow10Tab by kernel_rfl] at h2
  exact ⟨⟨Lib.tabIs_of_head (g := 1) (by kernel_rfl) (by kernel_rfl) Tryz.underlying184 Tryz.underlying92 (by kernel_rfl) (by kernel_rfl) h2,
    err_of (by kernel_rfl) (by kernel_rfl) h2.tail.tail.tail, err_of (by kernel_rfl) (by kernel_rfl) h2.tail.tail⟩,
    Proofs.utf8Tabs_of_reads Tryz.lays260 ops_extra (Pinned.utf8First_eq ▸ hf) (ops_accept ▸ ha)⟩
end Go.Proofs.YtoajckhfnadhjaaGreatDoor
