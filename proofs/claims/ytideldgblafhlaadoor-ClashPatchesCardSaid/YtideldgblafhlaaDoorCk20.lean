/- awake of layer 15. -/
import Derived.Lib.SlicesCompact
import Derived.Test.YtideldgblafhlaaDoorShelf
import Derived.BigQuiet
import Derived.Deep.QuietTactic
import Derived.Test.YtideldgblafhlaaDoorProg
import Derived.WalkKit
import Derived.WalkSpells
import Derived.Handy
import Derived.Lib.Hide
import Derived.Shelf.Strings.BuilderK
import Derived.Deep.CutRange
import Derived.Test.YtideldgblafhlaaDoorCk19
namespace Go.Proofs.YtideldgblafhlaaDoor
open Go.RowKit
set_option linter.unusedVariables false

theorem aw15_made (w w5 : World) (hT : Tabs w) (hN : Nums w) (g : Nat) (eg : w.heap.size + 1 + 1 = g) (e : (((((w.alloc (.cells #[.int .i64 2, .string ⟨#[97]⟩, .int .i64 0, .string ⟨#[]⟩, .int .i64 0, .string ⟨#[]⟩, .int .i64 0, .string ⟨#[120]⟩, .string ⟨#[]⟩, .string ⟨#[]⟩, .int .i64 0, .string ⟨#[]⟩, .int .i64 0, .slice none 0 0, .int .i64 0, .slice none 0 0] 27)).alloc (.cells #[.int .i64 1, .string ⟨#[98]⟩, .int .i64 0, .string ⟨#[]⟩, .int .i64 0, .string ⟨#[]⟩, .int .i64 0, .string ⟨#[120]⟩, .string ⟨#[]⟩, .string ⟨#[]⟩, .int .i64 0, .string ⟨#[]⟩, .int .i64 0, .slice none 0 0, .int .i64 0, .slice none 0 0] 27)).alloc (.cells #[.string ⟨#[108]⟩] 9)).alloc (.cells #[.int .i64 5, .string ⟨#[97]⟩, .int .i64 0, .string ⟨#[]⟩, .int .i64 0, .string ⟨#[]⟩, .int .i64 0, .string ⟨#[]⟩, .string ⟨#[]⟩, .string ⟨#[]⟩, .int .i64 1, .string ⟨#[]⟩, .int .i64 2, .slice none 0 0, .int .i64 0, .slice (some ⟨g, 0, none⟩) 1 1] 27)).alloc (.cells #[.int .i64 3, .string ⟨#[97]⟩, .int .i64 0, .string ⟨#[]⟩, .int .i64 0, .string ⟨#[]⟩, .int .i64 0, .string ⟨#[120]⟩, .string ⟨#[]⟩, .string ⟨#[]⟩, .int .i64 0, .string ⟨#[]⟩, .int .i64 0, .slice none 0 0, .int .i64 0, .slice none 0 0] 27)) = w5) :
    Below w.heap.size w w5 ∧ OpAt w5 w.heap.size awOa ∧ OpAt w5 (w.heap.size + 1) awOb ∧ OpAt w5 (g + 1) (awOh g) ∧ OpAt w5 (g + 1 + 1) awOg ∧ OIn (awOh g) w5 ∧ Tabs w5 ∧ Nums w5 := by
  obtain ⟨b1, x1⟩ := op_box w awOa
  obtain ⟨b2, x2⟩ := op_box (w.alloc (.cells #[.int .i64 2, .string ⟨#[97]⟩, .int .i64 0, .string ⟨#[]⟩, .int .i64 0, .string ⟨#[]⟩, .int .i64 0, .string ⟨#[120]⟩, .string ⟨#[]⟩, .string ⟨#[]⟩, .int .i64 0, .string ⟨#[]⟩, .int .i64 0, .slice none 0 0, .int .i64 0, .slice none 0 0] 27)) awOb
  have s1 : (w.alloc (.cells #[.int .i64 2, .string ⟨#[97]⟩, .int .i64 0, .string ⟨#[]⟩, .int .i64 0, .string ⟨#[]⟩, .int .i64 0, .string ⟨#[120]⟩, .string ⟨#[]⟩, .string ⟨#[]⟩, .int .i64 0, .string ⟨#[]⟩, .int .i64 0, .slice none 0 0, .int .i64 0, .slice none 0 0] 27)).heap.size = w.heap.size + 1 := by simp
  have s2 : ((w.alloc (.cells #[.int .i64 2, .string ⟨#[97]⟩, .int .i64 0, .string ⟨#[]⟩, .int .i64 0, .string ⟨#[]⟩, .int .i64 0, .string ⟨#[120]⟩, .string ⟨#[]⟩, .string ⟨#[]⟩, .int .i64 0, .string ⟨#[]⟩, .int .i64 0, .slice none 0 0, .int .i64 0, .slice none 0 0] 27)).alloc (.cells #[.int .i64 1, .string ⟨#[98]⟩, .int .i64 0, .string ⟨#[]⟩, .int .i64 0, .string ⟨#[]⟩, .int .i64 0, .string ⟨#[120]⟩, .string ⟨#[]⟩, .string ⟨#[]⟩, .int .i64 0, .string ⟨#[]⟩, .int .i64 0, .slice none 0 0, .int .i64 0, .slice none 0 0] 27)).heap.size = g := by simp; omega
  have s3 : (((w.alloc (.cells #[.int .i64 2, .string ⟨#[97]⟩, .int .i64 0, .string ⟨#[]⟩, .int .i64 0, .string ⟨#[]⟩, .int .i64 0, .string ⟨#[120]⟩, .string ⟨#[]⟩, .string ⟨#[]⟩, .int .i64 0, .string ⟨#[]⟩, .int .i64 0, .slice none 0 0, .int .i64 0, .slice none 0 0] 27)).alloc (.cells #[.int .i64 1, .string ⟨#[98]⟩, .int .i64 0, .string ⟨#[]⟩, .int .i64 0, .string ⟨#[]⟩, .int .i64 0, .string ⟨#[120]⟩, .string ⟨#[]⟩, .string ⟨#[]⟩, .int .i64 0, .string ⟨#[]⟩, .int .i64 0, .slice none 0 0, .int .i64 0, .slice none 0 0] 27)).alloc (.cells #[.string ⟨#[108]⟩] 9)).heap.size = g + 1 := by simp; omega
  have b3 : Below ((w.alloc (.cells #[.int .i64 2, .string ⟨#[97]⟩, .int .i64 0, .string ⟨#[]⟩, .int .i64 0, .string ⟨#[]⟩, .int .i64 0, .string ⟨#[120]⟩, .string ⟨#[]⟩, .string ⟨#[]⟩, .int .i64 0, .string ⟨#[]⟩, .int .i64 0, .slice none 0 0, .int .i64 0, .slice none 0 0] 27)).alloc (.cells #[.int .i64 1, .string ⟨#[98]⟩, .int .i64 0, .string ⟨#[]⟩, .int .i64 0, .string ⟨#[]⟩, .int .i64 0, .string ⟨#[120]⟩, .string ⟨#[]⟩, .string ⟨#[]⟩, .int .i64 0, .string ⟨#[]⟩, .int .i64 0, .slice none 0 0, .int .i64 0, .slice none 0 0] 27)).heap.size ((w.alloc (.cells #[.int .i64 2, .string ⟨#[97]⟩, .int .i64 0, .string ⟨#[]⟩, .int .i64 0, .string ⟨#[]⟩, .int .i64 0, .string ⟨#[120]⟩, .string ⟨#[]⟩, .string ⟨#[]⟩, .int .i64 0, .string ⟨#[]⟩, .int .i64 0, .slice none 0 0, .int .i64 0, .slice none 0 0] 27)).alloc (.cells #[.int .i64 1, .string ⟨#[98]⟩, .int .i64 0, .string ⟨#[]⟩, .int .i64 0, .string ⟨#[]⟩, .int .i64 0, .string ⟨#[120]⟩, .string ⟨#[]⟩, .string ⟨#[]⟩, .int .i64 0, .string ⟨#[]⟩, .int .i64 0, .slice none 0 0, .int .i64 0, .slice none 0 0] 27)) (((w.alloc (.cells #[.int .i64 2, .string ⟨#[97]⟩, .int .i64 0, .string ⟨#[]⟩, .int .i64 0, .string ⟨#[]⟩, .int .i64 0, .string ⟨#[120]⟩, .string ⟨#[]⟩, .string ⟨#[]⟩, .int .i64 0, .string ⟨#[]⟩, .int .i64 0, .slice none 0 0, .int .i64 0, .slice none 0 0] 27)).alloc (.cells #[.int .i64 1, .string ⟨#[98]⟩, .int .i64 0, .string ⟨#[]⟩, .int .i64 0, .string ⟨#[]⟩, .int .i64 0, .string ⟨#[120]⟩, .string ⟨#[]⟩, .string ⟨#[]⟩, .int .i64 0, .string ⟨#[]⟩, .int .i64 0, .slice none 0 0, .int .i64 0, .slice none 0 0] 27)).alloc (.cells #[.string ⟨#[108]⟩] 9)) := (Below.refl _ _).alloc (Nat.le_refl _) _
  have h3 : Strs (((w.alloc (.cells #[.int .i64 2, .string ⟨#[97]⟩, .int .i64 0, .string ⟨#[]⟩, .int .i64 0, .string ⟨#[]⟩, .int .i64 0, .string ⟨#[120]⟩, .string ⟨#[]⟩, .string ⟨#[]⟩, .int .i64 0, .string ⟨#[]⟩, .int .i64 0, .slice none 0 0, .int .i64 0, .slice none 0 0] 27)).alloc (.cells #[.int .i64 1, .string ⟨#[98]⟩, .int .i64 0, .string ⟨#[]⟩, .int .i64 0, .string ⟨#[]⟩, .int .i64 0, .string ⟨#[120]⟩, .string ⟨#[]⟩, .string ⟨#[]⟩, .int .i64 0, .string ⟨#[]⟩, .int .i64 0, .slice none 0 0, .int .i64 0, .slice none 0 0] 27)).alloc (.cells #[.string ⟨#[108]⟩] 9)) (((w.alloc (.cells #[.int .i64 2, .string ⟨#[97]⟩, .int .i64 0, .string ⟨#[]⟩, .int .i64 0, .string ⟨#[]⟩, .int .i64 0, .string ⟨#[120]⟩, .string ⟨#[]⟩, .string ⟨#[]⟩, .int .i64 0, .string ⟨#[]⟩, .int .i64 0, .slice none 0 0, .int .i64 0, .slice none 0 0] 27)).alloc (.cells #[.int .i64 1, .string ⟨#[98]⟩, .int .i64 0, .string ⟨#[]⟩, .int .i64 0, .string ⟨#[]⟩, .int .i64 0, .string ⟨#[120]⟩, .string ⟨#[]⟩, .string ⟨#[]⟩, .int .i64 0, .string ⟨#[]⟩, .int .i64 0, .slice none 0 0, .int .i64 0, .slice none 0 0] 27)).alloc (.cells #[.string ⟨#[108]⟩] 9)).heap.size (some ⟨((w.alloc (.cells #[.int .i64 2, .string ⟨#[97]⟩, .int .i64 0, .string ⟨#[]⟩, .int .i64 0, .string ⟨#[]⟩, .int .i64 0, .string ⟨#[120]⟩, .string ⟨#[]⟩, .string ⟨#[]⟩, .int .i64 0, .string ⟨#[]⟩, .int .i64 0, .slice none 0 0, .int .i64 0, .slice none 0 0] 27)).alloc (.cells #[.int .i64 1, .string ⟨#[98]⟩, .int .i64 0, .string ⟨#[]⟩, .int .i64 0, .string ⟨#[]⟩, .int .i64 0, .string ⟨#[120]⟩, .string ⟨#[]⟩, .string ⟨#[]⟩, .int .i64 0, .string ⟨#[]⟩, .int .i64 0, .slice none 0 0, .int .i64 0, .slice none 0 0] 27)).heap.size, 0, none⟩) (toBs [[108]]) := strs_one ((w.alloc (.cells #[.int .i64 2, .string ⟨#[97]⟩, .int .i64 0, .string ⟨#[]⟩, .int .i64 0, .string ⟨#[]⟩, .int .i64 0, .string ⟨#[120]⟩, .string ⟨#[]⟩, .string ⟨#[]⟩, .int .i64 0, .string ⟨#[]⟩, .int .i64 0, .slice none 0 0, .int .i64 0, .slice none 0 0] 27)).alloc (.cells #[.int .i64 1, .string ⟨#[98]⟩, .int .i64 0, .string ⟨#[]⟩, .int .i64 0, .string ⟨#[]⟩, .int .i64 0, .string ⟨#[120]⟩, .string ⟨#[]⟩, .string ⟨#[]⟩, .int .i64 0, .string ⟨#[]⟩, .int .i64 0, .slice none 0 0, .int .i64 0, .slice none 0 0] 27)) ⟨#[108]⟩
  obtain ⟨b4, x4⟩ := op_box (((w.alloc (.cells #[.int .i64 2, .string ⟨#[97]⟩, .int .i64 0, .string ⟨#[]⟩, .int .i64 0, .string ⟨#[]⟩, .int .i64 0, .string ⟨#[120]⟩, .string ⟨#[]⟩, .string ⟨#[]⟩, .int .i64 0, .string ⟨#[]⟩, .int .i64 0, .slice none 0 0, .int .i64 0, .slice none 0 0] 27)).alloc (.cells #[.int .i64 1, .string ⟨#[98]⟩, .int .i64 0, .string ⟨#[]⟩, .int .i64 0, .string ⟨#[]⟩, .int .i64 0, .string ⟨#[120]⟩, .string ⟨#[]⟩, .string ⟨#[]⟩, .int .i64 0, .string ⟨#[]⟩, .int .i64 0, .slice none 0 0, .int .i64 0, .slice none 0 0] 27)).alloc (.cells #[.string ⟨#[108]⟩] 9)) (awOh g)
  have s4 : ((((w.alloc (.cells #[.int .i64 2, .string ⟨#[97]⟩, .int .i64 0, .string ⟨#[]⟩, .int .i64 0, .string ⟨#[]⟩, .int .i64 0, .string ⟨#[120]⟩, .string ⟨#[]⟩, .string ⟨#[]⟩, .int .i64 0, .string ⟨#[]⟩, .int .i64 0, .slice none 0 0, .int .i64 0, .slice none 0 0] 27)).alloc (.cells #[.int .i64 1, .string ⟨#[98]⟩, .int .i64 0, .string ⟨#[]⟩, .int .i64 0, .string ⟨#[]⟩, .int .i64 0, .string ⟨#[120]⟩, .string ⟨#[]⟩, .string ⟨#[]⟩, .int .i64 0, .string ⟨#[]⟩, .int .i64 0, .slice none 0 0, .int .i64 0, .slice none 0 0] 27)).alloc (.cells #[.string ⟨#[108]⟩] 9)).alloc (.cells #[.int .i64 5, .string ⟨#[97]⟩, .int .i64 0, .string ⟨#[]⟩, .int .i64 0, .string ⟨#[]⟩, .int .i64 0, .string ⟨#[]⟩, .string ⟨#[]⟩, .string ⟨#[]⟩, .int .i64 1, .string ⟨#[]⟩, .int .i64 2, .slice none 0 0, .int .i64 0, .slice (some ⟨g, 0, none⟩) 1 1] 27)).heap.size = g + 1 + 1 := by simp; omega
  obtain ⟨b5, x5⟩ := op_box ((((w.alloc (.cells #[.int .i64 2, .string ⟨#[97]⟩, .int .i64 0, .string ⟨#[]⟩, .int .i64 0, .string ⟨#[]⟩, .int .i64 0, .string ⟨#[120]⟩, .string ⟨#[]⟩, .string ⟨#[]⟩, .int .i64 0, .string ⟨#[]⟩, .int .i64 0, .slice none 0 0, .int .i64 0, .slice none 0 0] 27)).alloc (.cells #[.int .i64 1, .string ⟨#[98]⟩, .int .i64 0, .string ⟨#[]⟩, .int .i64 0, .string ⟨#[]⟩, .int .i64 0, .string ⟨#[120]⟩, .string ⟨#[]⟩, .string ⟨#[]⟩, .int .i64 0, .string ⟨#[]⟩, .int .i64 0, .slice none 0 0, .int .i64 0, .slice none 0 0] 27)).alloc (.cells #[.string ⟨#[108]⟩] 9)).alloc (.cells #[.int .i64 5, .string ⟨#[97]⟩, .int .i64 0, .string ⟨#[]⟩, .int .i64 0, .string ⟨#[]⟩, .int .i64 0, .string ⟨#[]⟩, .string ⟨#[]⟩, .string ⟨#[]⟩, .int .i64 1, .string ⟨#[]⟩, .int .i64 2, .slice none 0 0, .int .i64 0, .slice (some ⟨g, 0, none⟩) 1 1] 27)) awOg
  have c12 := b1.trans (Below.mono b2 b1.size)
  have c13 := c12.trans (Below.mono b3 c12.size)
  have c14 := c13.trans (Below.mono b4 c13.size)
  have c15 := c14.trans (Below.mono b5 c14.size)
  have y1 : OpAt (((((w.alloc (.cells #[.int .i64 2, .string ⟨#[97]⟩, .int .i64 0, .string ⟨#[]⟩, .int .i64 0, .string ⟨#[]⟩, .int .i64 0, .string ⟨#[120]⟩, .string ⟨#[]⟩, .string ⟨#[]⟩, .int .i64 0, .string ⟨#[]⟩, .int .i64 0, .slice none 0 0, .int .i64 0, .slice none 0 0] 27)).alloc (.cells #[.int .i64 1, .string ⟨#[98]⟩, .int .i64 0, .string ⟨#[]⟩, .int .i64 0, .string ⟨#[]⟩, .int .i64 0, .string ⟨#[120]⟩, .string ⟨#[]⟩, .string ⟨#[]⟩, .int .i64 0, .string ⟨#[]⟩, .int .i64 0, .slice none 0 0, .int .i64 0, .slice none 0 0] 27)).alloc (.cells #[.string ⟨#[108]⟩] 9)).alloc (.cells #[.int .i64 5, .string ⟨#[97]⟩, .int .i64 0, .string ⟨#[]⟩, .int .i64 0, .string ⟨#[]⟩, .int .i64 0, .string ⟨#[]⟩, .string ⟨#[]⟩, .string ⟨#[]⟩, .int .i64 1, .string ⟨#[]⟩, .int .i64 2, .slice none 0 0, .int .i64 0, .slice (some ⟨g, 0, none⟩) 1 1] 27)).alloc (.cells #[.int .i64 3, .string ⟨#[97]⟩, .int .i64 0, .string ⟨#[]⟩, .int .i64 0, .string ⟨#[]⟩, .int .i64 0, .string ⟨#[120]⟩, .string ⟨#[]⟩, .string ⟨#[]⟩, .int .i64 0, .string ⟨#[]⟩, .int .i64 0, .slice none 0 0, .int .i64 0, .slice none 0 0] 27)) w.heap.size awOa := (((x1.on b2).on b3).on b4).on b5
  have y2 : OpAt (((((w.alloc (.cells #[.int .i64 2, .string ⟨#[97]⟩, .int .i64 0, .string ⟨#[]⟩, .int .i64 0, .string ⟨#[]⟩, .int .i64 0, .string ⟨#[120]⟩, .string ⟨#[]⟩, .string ⟨#[]⟩, .int .i64 0, .string ⟨#[]⟩, .int .i64 0, .slice none 0 0, .int .i64 0, .slice none 0 0] 27)).alloc (.cells #[.int .i64 1, .string ⟨#[98]⟩, .int .i64 0, .string ⟨#[]⟩, .int .i64 0, .string ⟨#[]⟩, .int .i64 0, .string ⟨#[120]⟩, .string ⟨#[]⟩, .string ⟨#[]⟩, .int .i64 0, .string ⟨#[]⟩, .int .i64 0, .slice none 0 0, .int .i64 0, .slice none 0 0] 27)).alloc (.cells #[.string ⟨#[108]⟩] 9)).alloc (.cells #[.int .i64 5, .string ⟨#[97]⟩, .int .i64 0, .string ⟨#[]⟩, .int .i64 0, .string ⟨#[]⟩, .int .i64 0, .string ⟨#[]⟩, .string ⟨#[]⟩, .string ⟨#[]⟩, .int .i64 1, .string ⟨#[]⟩, .int .i64 2, .slice none 0 0, .int .i64 0, .slice (some ⟨g, 0, none⟩) 1 1] 27)).alloc (.cells #[.int .i64 3, .string ⟨#[97]⟩, .int .i64 0, .string ⟨#[]⟩, .int .i64 0, .string ⟨#[]⟩, .int .i64 0, .string ⟨#[120]⟩, .string ⟨#[]⟩, .string ⟨#[]⟩, .int .i64 0, .string ⟨#[]⟩, .int .i64 0, .slice none 0 0, .int .i64 0, .slice none 0 0] 27)) (w.alloc (.cells #[.int .i64 2, .string ⟨#[97]⟩, .int .i64 0, .string ⟨#[]⟩, .int .i64 0, .string ⟨#[]⟩, .int .i64 0, .string ⟨#[120]⟩, .string ⟨#[]⟩, .string ⟨#[]⟩, .int .i64 0, .string ⟨#[]⟩, .int .i64 0, .slice none 0 0, .int .i64 0, .slice none 0 0] 27)).heap.size awOb := ((x2.on b3).on b4).on b5
  have y3 : Strs (((((w.alloc (.cells #[.int .i64 2, .string ⟨#[97]⟩, .int .i64 0, .string ⟨#[]⟩, .int .i64 0, .string ⟨#[]⟩, .int .i64 0, .string ⟨#[120]⟩, .string ⟨#[]⟩, .string ⟨#[]⟩, .int .i64 0, .string ⟨#[]⟩, .int .i64 0, .slice none 0 0, .int .i64 0, .slice none 0 0] 27)).alloc (.cells #[.int .i64 1, .string ⟨#[98]⟩, .int .i64 0, .string ⟨#[]⟩, .int .i64 0, .string ⟨#[]⟩, .int .i64 0, .string ⟨#[120]⟩, .string ⟨#[]⟩, .string ⟨#[]⟩, .int .i64 0, .string ⟨#[]⟩, .int .i64 0, .slice none 0 0, .int .i64 0, .slice none 0 0] 27)).alloc (.cells #[.string ⟨#[108]⟩] 9)).alloc (.cells #[.int .i64 5, .string ⟨#[97]⟩, .int .i64 0, .string ⟨#[]⟩, .int .i64 0, .string ⟨#[]⟩, .int .i64 0, .string ⟨#[]⟩, .string ⟨#[]⟩, .string ⟨#[]⟩, .int .i64 1, .string ⟨#[]⟩, .int .i64 2, .slice none 0 0, .int .i64 0, .slice (some ⟨g, 0, none⟩) 1 1] 27)).alloc (.cells #[.int .i64 3, .string ⟨#[97]⟩, .int .i64 0, .string ⟨#[]⟩, .int .i64 0, .string ⟨#[]⟩, .int .i64 0, .string ⟨#[120]⟩, .string ⟨#[]⟩, .string ⟨#[]⟩, .int .i64 0, .string ⟨#[]⟩, .int .i64 0, .slice none 0 0, .int .i64 0, .slice none 0 0] 27)) (((((w.alloc (.cells #[.int .i64 2, .string ⟨#[97]⟩, .int .i64 0, .string ⟨#[]⟩, .int .i64 0, .string ⟨#[]⟩, .int .i64 0, .string ⟨#[120]⟩, .string ⟨#[]⟩, .string ⟨#[]⟩, .int .i64 0, .string ⟨#[]⟩, .int .i64 0, .slice none 0 0, .int .i64 0, .slice none 0 0] 27)).alloc (.cells #[.int .i64 1, .string ⟨#[98]⟩, .int .i64 0, .string ⟨#[]⟩, .int .i64 0, .string ⟨#[]⟩, .int .i64 0, .string ⟨#[120]⟩, .string ⟨#[]⟩, .string ⟨#[]⟩, .int .i64 0, .string ⟨#[]⟩, .int .i64 0, .slice none 0 0, .int .i64 0, .slice none 0 0] 27)).alloc (.cells #[.string ⟨#[108]⟩] 9)).alloc (.cells #[.int .i64 5, .string ⟨#[97]⟩, .int .i64 0, .string ⟨#[]⟩, .int .i64 0, .string ⟨#[]⟩, .int .i64 0, .string ⟨#[]⟩, .string ⟨#[]⟩, .string ⟨#[]⟩, .int .i64 1, .string ⟨#[]⟩, .int .i64 2, .slice none 0 0, .int .i64 0, .slice (some ⟨g, 0, none⟩) 1 1] 27)).alloc (.cells #[.int .i64 3, .string ⟨#[97]⟩, .int .i64 0, .string ⟨#[]⟩, .int .i64 0, .string ⟨#[]⟩, .int .i64 0, .string ⟨#[120]⟩, .string ⟨#[]⟩, .string ⟨#[]⟩, .int .i64 0, .string ⟨#[]⟩, .int .i64 0, .slice none 0 0, .int .i64 0, .slice none 0 0] 27)).heap.size (some ⟨((w.alloc (.cells #[.int .i64 2, .string ⟨#[97]⟩, .int .i64 0, .string ⟨#[]⟩, .int .i64 0, .string ⟨#[]⟩, .int .i64 0, .string ⟨#[120]⟩, .string ⟨#[]⟩, .string ⟨#[]⟩, .int .i64 0, .string ⟨#[]⟩, .int .i64 0, .slice none 0 0, .int .i64 0, .slice none 0 0] 27)).alloc (.cells #[.int .i64 1, .string ⟨#[98]⟩, .int .i64 0, .string ⟨#[]⟩, .int .i64 0, .string ⟨#[]⟩, .int .i64 0, .string ⟨#[120]⟩, .string ⟨#[]⟩, .string ⟨#[]⟩, .int .i64 0, .string ⟨#[]⟩, .int .i64 0, .slice none 0 0, .int .i64 0, .slice none 0 0] 27)).heap.size, 0, none⟩) (toBs [[108]]) := (h3.on b4).on b5
  have y4 : OpAt (((((w.alloc (.cells #[.int .i64 2, .string ⟨#[97]⟩, .int .i64 0, .string ⟨#[]⟩, .int .i64 0, .string ⟨#[]⟩, .int .i64 0, .string ⟨#[120]⟩, .string ⟨#[]⟩, .string ⟨#[]⟩, .int .i64 0, .string ⟨#[]⟩, .int .i64 0, .slice none 0 0, .int .i64 0, .slice none 0 0] 27)).alloc (.cells #[.int .i64 1, .string ⟨#[98]⟩, .int .i64 0, .string ⟨#[]⟩, .int .i64 0, .string ⟨#[]⟩, .int .i64 0, .string ⟨#[120]⟩, .string ⟨#[]⟩, .string ⟨#[]⟩, .int .i64 0, .string ⟨#[]⟩, .int .i64 0, .slice none 0 0, .int .i64 0, .slice none 0 0] 27)).alloc (.cells #[.string ⟨#[108]⟩] 9)).alloc (.cells #[.int .i64 5, .string ⟨#[97]⟩, .int .i64 0, .string ⟨#[]⟩, .int .i64 0, .string ⟨#[]⟩, .int .i64 0, .string ⟨#[]⟩, .string ⟨#[]⟩, .string ⟨#[]⟩, .int .i64 1, .string ⟨#[]⟩, .int .i64 2, .slice none 0 0, .int .i64 0, .slice (some ⟨g, 0, none⟩) 1 1] 27)).alloc (.cells #[.int .i64 3, .string ⟨#[97]⟩, .int .i64 0, .string ⟨#[]⟩, .int .i64 0, .string ⟨#[]⟩, .int .i64 0, .string ⟨#[120]⟩, .string ⟨#[]⟩, .string ⟨#[]⟩, .int .i64 0, .string ⟨#[]⟩, .int .i64 0, .slice none 0 0, .int .i64 0, .slice none 0 0] 27)) (((w.alloc (.cells #[.int .i64 2, .string ⟨#[97]⟩, .int .i64 0, .string ⟨#[]⟩, .int .i64 0, .string ⟨#[]⟩, .int .i64 0, .string ⟨#[120]⟩, .string ⟨#[]⟩, .string ⟨#[]⟩, .int .i64 0, .string ⟨#[]⟩, .int .i64 0, .slice none 0 0, .int .i64 0, .slice none 0 0] 27)).alloc (.cells #[.int .i64 1, .string ⟨#[98]⟩, .int .i64 0, .string ⟨#[]⟩, .int .i64 0, .string ⟨#[]⟩, .int .i64 0, .string ⟨#[120]⟩, .string ⟨#[]⟩, .string ⟨#[]⟩, .int .i64 0, .string ⟨#[]⟩, .int .i64 0, .slice none 0 0, .int .i64 0, .slice none 0 0] 27)).alloc (.cells #[.string ⟨#[108]⟩] 9)).heap.size (awOh g) := x4.on b5
  have y5 : OpAt (((((w.alloc (.cells #[.int .i64 2, .string ⟨#[97]⟩, .int .i64 0, .string ⟨#[]⟩, .int .i64 0, .string ⟨#[]⟩, .int .i64 0, .string ⟨#[120]⟩, .string ⟨#[]⟩, .string ⟨#[]⟩, .int .i64 0, .string ⟨#[]⟩, .int .i64 0, .slice none 0 0, .int .i64 0, .slice none 0 0] 27)).alloc (.cells #[.int .i64 1, .string ⟨#[98]⟩, .int .i64 0, .string ⟨#[]⟩, .int .i64 0, .string ⟨#[]⟩, .int .i64 0, .string ⟨#[120]⟩, .string ⟨#[]⟩, .string ⟨#[]⟩, .int .i64 0, .string ⟨#[]⟩, .int .i64 0, .slice none 0 0, .int .i64 0, .slice none 0 0] 27)).alloc (.cells #[.string ⟨#[108]⟩] 9)).alloc (.cells #[.int .i64 5, .string ⟨#[97]⟩, .int .i64 0, .string ⟨#[]⟩, .int .i64 0, .string ⟨#[]⟩, .int .i64 0, .string ⟨#[]⟩, .string ⟨#[]⟩, .string ⟨#[]⟩, .int .i64 1, .string ⟨#[]⟩, .int .i64 2, .slice none 0 0, .int .i64 0, .slice (some ⟨g, 0, none⟩) 1 1] 27)).alloc (.cells #[.int .i64 3, .string ⟨#[97]⟩, .int .i64 0, .string ⟨#[]⟩, .int .i64 0, .string ⟨#[]⟩, .int .i64 0, .string ⟨#[120]⟩, .string ⟨#[]⟩, .string ⟨#[]⟩, .int .i64 0, .string ⟨#[]⟩, .int .i64 0, .slice none 0 0, .int .i64 0, .slice none 0 0] 27)) ((((w.alloc (.cells #[.int .i64 2, .string ⟨#[97]⟩, .int .i64 0, .string ⟨#[]⟩, .int .i64 0, .string ⟨#[]⟩, .int .i64 0, .string ⟨#[120]⟩, .string ⟨#[]⟩, .string ⟨#[]⟩, .int .i64 0, .string ⟨#[]⟩, .int .i64 0, .slice none 0 0, .int .i64 0, .slice none 0 0] 27)).alloc (.cells #[.int .i64 1, .string ⟨#[98]⟩, .int .i64 0, .string ⟨#[]⟩, .int .i64 0, .string ⟨#[]⟩, .int .i64 0, .string ⟨#[120]⟩, .string ⟨#[]⟩, .string ⟨#[]⟩, .int .i64 0, .string ⟨#[]⟩, .int .i64 0, .slice none 0 0, .int .i64 0, .slice none 0 0] 27)).alloc (.cells #[.string ⟨#[108]⟩] 9)).alloc (.cells #[.int .i64 5, .string ⟨#[97]⟩, .int .i64 0, .string ⟨#[]⟩, .int .i64 0, .string ⟨#[]⟩, .int .i64 0, .string ⟨#[]⟩, .string ⟨#[]⟩, .string ⟨#[]⟩, .int .i64 1, .string ⟨#[]⟩, .int .i64 2, .slice none 0 0, .int .i64 0, .slice (some ⟨g, 0, none⟩) 1 1] 27)).heap.size awOg := x5
  have c6 : Below w.heap.size w (((((w.alloc (.cells #[.int .i64 2, .string ⟨#[97]⟩, .int .i64 0, .string ⟨#[]⟩, .int .i64 0, .string ⟨#[]⟩, .int .i64 0, .string ⟨#[120]⟩, .string ⟨#[]⟩, .string ⟨#[]⟩, .int .i64 0, .string ⟨#[]⟩, .int .i64 0, .slice none 0 0, .int .i64 0, .slice none 0 0] 27)).alloc (.cells #[.int .i64 1, .string ⟨#[98]⟩, .int .i64 0, .string ⟨#[]⟩, .int .i64 0, .string ⟨#[]⟩, .int .i64 0, .string ⟨#[120]⟩, .string ⟨#[]⟩, .string ⟨#[]⟩, .int .i64 0, .string ⟨#[]⟩, .int .i64 0, .slice none 0 0, .int .i64 0, .slice none 0 0] 27)).alloc (.cells #[.string ⟨#[108]⟩] 9)).alloc (.cells #[.int .i64 5, .string ⟨#[97]⟩, .int .i64 0, .string ⟨#[]⟩, .int .i64 0, .string ⟨#[]⟩, .int .i64 0, .string ⟨#[]⟩, .string ⟨#[]⟩, .string ⟨#[]⟩, .int .i64 1, .string ⟨#[]⟩, .int .i64 2, .slice none 0 0, .int .i64 0, .slice (some ⟨g, 0, none⟩) 1 1] 27)).alloc (.cells #[.int .i64 3, .string ⟨#[97]⟩, .int .i64 0, .string ⟨#[]⟩, .int .i64 0, .string ⟨#[]⟩, .int .i64 0, .string ⟨#[120]⟩, .string ⟨#[]⟩, .string ⟨#[]⟩, .int .i64 0, .string ⟨#[]⟩, .int .i64 0, .slice none 0 0, .int .i64 0, .slice none 0 0] 27)) := c15
  rw [e] at y1 y2 y3 y4 y5 c6
  rw [s1] at y2
  rw [s2] at y3
  rw [s3] at y4
  rw [s4] at y5
  exact ⟨c6, y1, y2, y4, y5, oin_h y3, Tabs.on hT c6, hN.on c6⟩
theorem aw15_rows (w : World) (xh xa xb : Om) (ih : OIn xh w) (ia : OIn xa w) (ib : OIn xb w) : Below w.heap.size w ((w.alloc (.cells #[.int .i64 xh.kind, .string xh.self.p, .int .i64 xh.self.n, .string xh.parent.p, .int .i64 xh.parent.n, .string xh.dst.p, .int .i64 xh.dst.n, .string xh.name, .string xh.dname, .string xh.left.p, .int .i64 xh.left.n, .string xh.right.p, .int .i64 xh.right.n, .slice xh.a1 xh.dels.length xh.c1, .int .i64 xh.first, .slice xh.a2 xh.lines.length xh.c2, .int .i64 xa.kind, .string xa.self.p, .int .i64 xa.self.n, .string xa.parent.p, .int .i64 xa.parent.n, .string xa.dst.p, .int .i64 xa.dst.n, .string xa.name, .string xa.dname, .string xa.left.p, .int .i64 xa.left.n, .string xa.right.p, .int .i64 xa.right.n, .slice xa.a1 xa.dels.length xa.c1, .int .i64 xa.first, .slice xa.a2 xa.lines.length xa.c2] 27)).alloc (.cells #[.int .i64 xb.kind, .string xb.self.p, .int .i64 xb.self.n, .string xb.parent.p, .int .i64 xb.parent.n, .string xb.dst.p, .int .i64 xb.dst.n, .string xb.name, .string xb.dname, .string xb.left.p, .int .i64 xb.left.n, .string xb.right.p, .int .i64 xb.right.n, .slice xb.a1 xb.dels.length xb.c1, .int .i64 xb.first, .slice xb.a2 xb.lines.length xb.c2] 27)) ∧ OsIn ((w.alloc (.cells #[.int .i64 xh.kind, .string xh.self.p, .int .i64 xh.self.n, .string xh.parent.p, .int .i64 xh.parent.n, .string xh.dst.p, .int .i64 xh.dst.n, .string xh.name, .string xh.dname, .string xh.left.p, .int .i64 xh.left.n, .string xh.right.p, .int .i64 xh.right.n, .slice xh.a1 xh.dels.length xh.c1, .int .i64 xh.first, .slice xh.a2 xh.lines.length xh.c2, .int .i64 xa.kind, .string xa.self.p, .int .i64 xa.self.n, .string xa.parent.p, .int .i64 xa.parent.n, .string xa.dst.p, .int .i64 xa.dst.n, .string xa.name, .string xa.dname, .string xa.left.p, .int .i64 xa.left.n, .string xa.right.p, .int .i64 xa.right.n, .slice xa.a1 xa.dels.length xa.c1, .int .i64 xa.first, .slice xa.a2 xa.lines.length xa.c2] 27)).alloc (.cells #[.int .i64 xb.kind, .string xb.self.p, .int .i64 xb.self.n, .string xb.parent.p, .int .i64 xb.parent.n, .string xb.dst.p, .int .i64 xb.dst.n, .string xb.name, .string xb.dname, .string xb.left.p, .int .i64 xb.left.n, .string xb.right.p, .int .i64 xb.right.n, .slice xb.a1 xb.dels.length xb.c1, .int .i64 xb.first, .slice xb.a2 xb.lines.length xb.c2] 27)) (some ⟨w.heap.size, 0, none⟩) [xh, xa] ∧ OsIn ((w.alloc (.cells #[.int .i64 xh.kind, .string xh.self.p, .int .i64 xh.self.n, .string xh.parent.p, .int .i64 xh.parent.n, .string xh.dst.p, .int .i64 xh.dst.n, .string xh.name, .string xh.dname, .string xh.left.p, .int .i64 xh.left.n, .string xh.right.p, .int .i64 xh.right.n, .slice xh.a1 xh.dels.length xh.c1, .int .i64 xh.first, .slice xh.a2 xh.lines.length xh.c2, .int .i64 xa.kind, .string xa.self.p, .int .i64 xa.self.n, .string xa.parent.p, .int .i64 xa.parent.n, .string xa.dst.p, .int .i64 xa.dst.n, .string xa.name, .string xa.dname, .string xa.left.p, .int .i64 xa.left.n, .string xa.right.p, .int .i64 xa.right.n, .slice xa.a1 xa.dels.length xa.c1, .int .i64 xa.first, .slice xa.a2 xa.lines.length xa.c2] 27)).alloc (.cells #[.int .i64 xb.kind, .string xb.self.p, .int .i64 xb.self.n, .string xb.parent.p, .int .i64 xb.parent.n, .string xb.dst.p, .int .i64 xb.dst.n, .string xb.name, .string xb.dname, .string xb.left.p, .int .i64 xb.left.n, .string xb.right.p, .int .i64 xb.right.n, .slice xb.a1 xb.dels.length xb.c1, .int .i64 xb.first, .slice xb.a2 xb.lines.length xb.c2] 27)) (some ⟨w.heap.size + 1, 0, none⟩) [xb] := by
  obtain ⟨b1, o1⟩ := ops_two w xh xa ih.ok ia.ok
  have s1 : (w.alloc (.cells #[.int .i64 xh.kind, .string xh.self.p, .int .i64 xh.self.n, .string xh.parent.p, .int .i64 xh.parent.n, .string xh.dst.p, .int .i64 xh.dst.n, .string xh.name, .string xh.dname, .string xh.left.p, .int .i64 xh.left.n, .string xh.right.p, .int .i64 xh.right.n, .slice xh.a1 xh.dels.length xh.c1, .int .i64 xh.first, .slice xh.a2 xh.lines.length xh.c2, .int .i64 xa.kind, .string xa.self.p, .int .i64 xa.self.n, .string xa.parent.p, .int .i64 xa.parent.n, .string xa.dst.p, .int .i64 xa.dst.n, .string xa.name, .string xa.dname, .string xa.left.p, .int .i64 xa.left.n, .string xa.right.p, .int .i64 xa.right.n, .slice xa.a1 xa.dels.length xa.c1, .int .i64 xa.first, .slice xa.a2 xa.lines.length xa.c2] 27)).heap.size = w.heap.size + 1 := by simp
  have b2 : Below (w.alloc (.cells #[.int .i64 xh.kind, .string xh.self.p, .int .i64 xh.self.n, .string xh.parent.p, .int .i64 xh.parent.n, .string xh.dst.p, .int .i64 xh.dst.n, .string xh.name, .string xh.dname, .string xh.left.p, .int .i64 xh.left.n, .string xh.right.p, .int .i64 xh.right.n, .slice xh.a1 xh.dels.length xh.c1, .int .i64 xh.first, .slice xh.a2 xh.lines.length xh.c2, .int .i64 xa.kind, .string xa.self.p, .int .i64 xa.self.n, .string xa.parent.p, .int .i64 xa.parent.n, .string xa.dst.p, .int .i64 xa.dst.n, .string xa.name, .string xa.dname, .string xa.left.p, .int .i64 xa.left.n, .string xa.right.p, .int .i64 xa.right.n, .slice xa.a1 xa.dels.length xa.c1, .int .i64 xa.first, .slice xa.a2 xa.lines.length xa.c2] 27)).heap.size (w.alloc (.cells #[.int .i64 xh.kind, .string xh.self.p, .int .i64 xh.self.n, .string xh.parent.p, .int .i64 xh.parent.n, .string xh.dst.p, .int .i64 xh.dst.n, .string xh.name, .string xh.dname, .string xh.left.p, .int .i64 xh.left.n, .string xh.right.p, .int .i64 xh.right.n, .slice xh.a1 xh.dels.length xh.c1, .int .i64 xh.first, .slice xh.a2 xh.lines.length xh.c2, .int .i64 xa.kind, .string xa.self.p, .int .i64 xa.self.n, .string xa.parent.p, .int .i64 xa.parent.n, .string xa.dst.p, .int .i64 xa.dst.n, .string xa.name, .string xa.dname, .string xa.left.p, .int .i64 xa.left.n, .string xa.right.p, .int .i64 xa.right.n, .slice xa.a1 xa.dels.length xa.c1, .int .i64 xa.first, .slice xa.a2 xa.lines.length xa.c2] 27)) ((w.alloc (.cells #[.int .i64 xh.kind, .string xh.self.p, .int .i64 xh.self.n, .string xh.parent.p, .int .i64 xh.parent.n, .string xh.dst.p, .int .i64 xh.dst.n, .string xh.name, .string xh.dname, .string xh.left.p, .int .i64 xh.left.n, .string xh.right.p, .int .i64 xh.right.n, .slice xh.a1 xh.dels.length xh.c1, .int .i64 xh.first, .slice xh.a2 xh.lines.length xh.c2, .int .i64 xa.kind, .string xa.self.p, .int .i64 xa.self.n, .string xa.parent.p, .int .i64 xa.parent.n, .string xa.dst.p, .int .i64 xa.dst.n, .string xa.name, .string xa.dname, .string xa.left.p, .int .i64 xa.left.n, .string xa.right.p, .int .i64 xa.right.n, .slice xa.a1 xa.dels.length xa.c1, .int .i64 xa.first, .slice xa.a2 xa.lines.length xa.c2] 27)).alloc (.cells #[.int .i64 xb.kind, .string xb.self.p, .int .i64 xb.self.n, .string xb.parent.p, .int .i64 xb.parent.n, .string xb.dst.p, .int .i64 xb.dst.n, .string xb.name, .string xb.dname, .string xb.left.p, .int .i64 xb.left.n, .string xb.right.p, .int .i64 xb.right.n, .slice xb.a1 xb.dels.length xb.c1, .int .i64 xb.first, .slice xb.a2 xb.lines.length xb.c2] 27)) := (Below.refl _ _).alloc (Nat.le_refl _) _
  have HO : opR.Own ((w.alloc (.cells #[.int .i64 xh.kind, .string xh.self.p, .int .i64 xh.self.n, .string xh.parent.p, .int .i64 xh.parent.n, .string xh.dst.p, .int .i64 xh.dst.n, .string xh.name, .string xh.dname, .string xh.left.p, .int .i64 xh.left.n, .string xh.right.p, .int .i64 xh.right.n, .slice xh.a1 xh.dels.length xh.c1, .int .i64 xh.first, .slice xh.a2 xh.lines.length xh.c2, .int .i64 xa.kind, .string xa.self.p, .int .i64 xa.self.n, .string xa.parent.p, .int .i64 xa.parent.n, .string xa.dst.p, .int .i64 xa.dst.n, .string xa.name, .string xa.dname, .string xa.left.p, .int .i64 xa.left.n, .string xa.right.p, .int .i64 xa.right.n, .slice xa.a1 xa.dels.length xa.c1, .int .i64 xa.first, .slice xa.a2 xa.lines.length xa.c2] 27)).alloc (.cells #[.int .i64 xb.kind, .string xb.self.p, .int .i64 xb.self.n, .string xb.parent.p, .int .i64 xb.parent.n, .string xb.dst.p, .int .i64 xb.dst.n, .string xb.name, .string xb.dname, .string xb.left.p, .int .i64 xb.left.n, .string xb.right.p, .int .i64 xb.right.n, .slice xb.a1 xb.dels.length xb.c1, .int .i64 xb.first, .slice xb.a2 xb.lines.length xb.c2] 27)) (w.alloc (.cells #[.int .i64 xh.kind, .string xh.self.p, .int .i64 xh.self.n, .string xh.parent.p, .int .i64 xh.parent.n, .string xh.dst.p, .int .i64 xh.dst.n, .string xh.name, .string xh.dname, .string xh.left.p, .int .i64 xh.left.n, .string xh.right.p, .int .i64 xh.right.n, .slice xh.a1 xh.dels.length xh.c1, .int .i64 xh.first, .slice xh.a2 xh.lines.length xh.c2, .int .i64 xa.kind, .string xa.self.p, .int .i64 xa.self.n, .string xa.parent.p, .int .i64 xa.parent.n, .string xa.dst.p, .int .i64 xa.dst.n, .string xa.name, .string xa.dname, .string xa.left.p, .int .i64 xa.left.n, .string xa.right.p, .int .i64 xa.right.n, .slice xa.a1 xa.dels.length xa.c1, .int .i64 xa.first, .slice xa.a2 xa.lines.length xa.c2] 27)).heap.size (.slice (some ⟨(w.alloc (.cells #[.int .i64 xh.kind, .string xh.self.p, .int .i64 xh.self.n, .string xh.parent.p, .int .i64 xh.parent.n, .string xh.dst.p, .int .i64 xh.dst.n, .string xh.name, .string xh.dname, .string xh.left.p, .int .i64 xh.left.n, .string xh.right.p, .int .i64 xh.right.n, .slice xh.a1 xh.dels.length xh.c1, .int .i64 xh.first, .slice xh.a2 xh.lines.length xh.c2, .int .i64 xa.kind, .string xa.self.p, .int .i64 xa.self.n, .string xa.parent.p, .int .i64 xa.parent.n, .string xa.dst.p, .int .i64 xa.dst.n, .string xa.name, .string xa.dname, .string xa.left.p, .int .i64 xa.left.n, .string xa.right.p, .int .i64 xa.right.n, .slice xa.a1 xa.dels.length xa.c1, .int .i64 xa.first, .slice xa.a2 xa.lines.length xa.c2] 27)).heap.size, 0, none⟩) 1 1) [xb] := World.ownsRow_lit (base := (w.alloc (.cells #[.int .i64 xh.kind, .string xh.self.p, .int .i64 xh.self.n, .string xh.parent.p, .int .i64 xh.parent.n, .string xh.dst.p, .int .i64 xh.dst.n, .string xh.name, .string xh.dname, .string xh.left.p, .int .i64 xh.left.n, .string xh.right.p, .int .i64 xh.right.n, .slice xh.a1 xh.dels.length xh.c1, .int .i64 xh.first, .slice xh.a2 xh.lines.length xh.c2, .int .i64 xa.kind, .string xa.self.p, .int .i64 xa.self.n, .string xa.parent.p, .int .i64 xa.parent.n, .string xa.dst.p, .int .i64 xa.dst.n, .string xa.name, .string xa.dname, .string xa.left.p, .int .i64 xa.left.n, .string xa.right.p, .int .i64 xa.right.n, .slice xa.a1 xa.dels.length xa.c1, .int .i64 xa.first, .slice xa.a2 xa.lines.length xa.c2] 27)).heap.size) (e := 27) (size := 16) (w.alloc (.cells #[.int .i64 xh.kind, .string xh.self.p, .int .i64 xh.self.n, .string xh.parent.p, .int .i64 xh.parent.n, .string xh.dst.p, .int .i64 xh.dst.n, .string xh.name, .string xh.dname, .string xh.left.p, .int .i64 xh.left.n, .string xh.right.p, .int .i64 xh.right.n, .slice xh.a1 xh.dels.length xh.c1, .int .i64 xh.first, .slice xh.a2 xh.lines.length xh.c2, .int .i64 xa.kind, .string xa.self.p, .int .i64 xa.self.n, .string xa.parent.p, .int .i64 xa.parent.n, .string xa.dst.p, .int .i64 xa.dst.n, .string xa.name, .string xa.dname, .string xa.left.p, .int .i64 xa.left.n, .string xa.right.p, .int .i64 xa.right.n, .slice xa.a1 xa.dels.length xa.c1, .int .i64 xa.first, .slice xa.a2 xa.lines.length xa.c2] 27)) #[.int .i64 xb.kind, .string xb.self.p, .int .i64 xb.self.n, .string xb.parent.p, .int .i64 xb.parent.n, .string xb.dst.p, .int .i64 xb.dst.n, .string xb.name, .string xb.dname, .string xb.left.p, .int .i64 xb.left.n, .string xb.right.p, .int .i64 xb.right.n, .slice xb.a1 xb.dels.length xb.c1, .int .i64 xb.first, .slice xb.a2 xb.lines.length xb.c2] 1 (Nat.le_refl _) (by decide) rfl
  have bb := b1.trans (b2.mono b1.size)
  have h2 := HO.parts.2.1
  rw [s1] at h2
  refine ⟨bb, ⟨o1.on b2, by simp, ?_, ?_, ?_⟩, ⟨⟨h2, ?_⟩, by simp, ?_, ?_, ?_⟩⟩
  · intro z hz
    have e : z = xh ∨ z = xa := by simpa using hz
    rcases e with rfl | rfl
    · exact ih.may
    · exact ia.may
  · intro z hz
    have e : z = xh ∨ z = xa := by simpa using hz
    rcases e with rfl | rfl
    · exact ih.lt
    · exact ia.lt
  · intro z hz
    have e : z = xh ∨ z = xa := by simpa using hz
    rcases e with rfl | rfl
    · exact ih.inn
    · exact ia.inn
  · intro z hz
    obtain rfl : z = xb := by simpa using hz
    exact ib.ok.on bb
  · intro z hz
    obtain rfl : z = xb := by simpa using hz
    exact ib.may
  · intro z hz
    obtain rfl : z = xb := by simpa using hz
    exact ib.lt
  · intro z hz
    obtain rfl : z = xb := by simpa using hz
    exact ib.inn
theorem aw15_pairs {xh xa xb : Om} (kh : xh.key = awKh) (ka : xa.key = awKa) (kb : xb.key = awKb) : pairsT [xh, xa] [xb] = [(1, 0)] := by
  have h : pairsC [awKh, awKa] [awKb] = [(1, 0)] := by decide +kernel
  unfold pairsT okeys
  simp only [List.map_cons, List.map_nil, kh, ka, kb, h]
  rfl
theorem aw15_three : clashO awKa awKb = 3 := by decide +kernel
theorem aw15_one : clashO awKh awKh = 1 := by decide +kernel
theorem aw15_two : clashO awKh awKg = 2 := by decide +kernel
theorem aw15_place {x : Om} (k : x.key = awKa) : (placesT x).length = 1 := by
  unfold placesT
  rw [k, List.length_map]
  rfl
set_option maxHeartbeats 8000000 in
set_option maxRecDepth 100000 in
theorem clashaw_any (c : ClashC) : AwC := fun w hT hN => by
  have HC := Lib.hid c
  have HT0 := Lib.hid hT
  have HN0 := Lib.hid hN
  clear c hT hN
  go_enter Tryd.func6, Tryd.ntmps6
  go_upto_region 5 with (fail)
  generalize hw5 : (((((w.alloc (.cells #[.int .i64 2, .string ⟨#[97]⟩, .int .i64 0, .string ⟨#[]⟩, .int .i64 0, .string ⟨#[]⟩, .int .i64 0, .string ⟨#[120]⟩, .string ⟨#[]⟩, .string ⟨#[]⟩, .int .i64 0, .string ⟨#[]⟩, .int .i64 0, .slice none 0 0, .int .i64 0, .slice none 0 0] 27)).alloc (.cells #[.int .i64 1, .string ⟨#[98]⟩, .int .i64 0, .string ⟨#[]⟩, .int .i64 0, .string ⟨#[]⟩, .int .i64 0, .string ⟨#[120]⟩, .string ⟨#[]⟩, .string ⟨#[]⟩, .int .i64 0, .string ⟨#[]⟩, .int .i64 0, .slice none 0 0, .int .i64 0, .slice none 0 0] 27)).alloc (.cells #[.string ⟨#[108]⟩] 9)).alloc (.cells #[.int .i64 5, .string ⟨#[97]⟩, .int .i64 0, .string ⟨#[]⟩, .int .i64 0, .string ⟨#[]⟩, .int .i64 0, .string ⟨#[]⟩, .string ⟨#[]⟩, .string ⟨#[]⟩, .int .i64 1, .string ⟨#[]⟩, .int .i64 2, .slice none 0 0, .int .i64 0, .slice (some ⟨w.heap.size + 1 + 1, 0, none⟩) 1 1] 27)).alloc (.cells #[.int .i64 3, .string ⟨#[97]⟩, .int .i64 0, .string ⟨#[]⟩, .int .i64 0, .string ⟨#[]⟩, .int .i64 0, .string ⟨#[120]⟩, .string ⟨#[]⟩, .string ⟨#[]⟩, .int .i64 0, .string ⟨#[]⟩, .int .i64 0, .slice none 0 0, .int .i64 0, .slice none 0 0] 27)) = w5 at *
  obtain ⟨hb, h1, h2, h3, h4, ih, hT, hN⟩ := aw15_made w w5 HT0.out HN0.out _ rfl hw5
  have HB := Lib.hid hb
  have HA := Lib.hid h1
  have HBB := Lib.hid h2
  have HH := Lib.hid h3
  have HGG := Lib.hid h4
  have IH := Lib.hid ih
  have IA := Lib.hid (oin_flat awOa w5 (.inl rfl))
  have IB := Lib.hid (oin_flat awOb w5 (.inr (.inl rfl)))
  have IG := Lib.hid (oin_flat awOg w5 (.inr (.inr rfl)))
  have HT := Lib.hid hT
  have HN := Lib.hid hN
  clear hw5 hb h1 h2 h3 h4 ih hT hN HT0 HN0
  have kh : (awOh (w.heap.size + 1 + 1)).key = awKh := rfl
  have ka : awOa.key = awKa := rfl
  have kb : awOb.key = awKb := rfl
  have kg : awOg.key = awKg := rfl
  generalize awOh (w.heap.size + 1 + 1) = xh at *
  generalize awOa = xa at *
  generalize awOb = xb at *
  generalize awOg = xg at *
  have KH := Lib.hid kh
  have KA := Lib.hid ka
  have KB := Lib.hid kb
  have KG := Lib.hid kg
  clear kh ka kb kg
  generalize w.heap.size + 1 + 1 + 1 + 1 = gg at *
  generalize w.heap.size + 1 + 1 + 1 = gh at *
  generalize w.heap.size + 1 + 1 = gs at *
  generalize w.heap.size + 1 = gb at *
  generalize hga : w.heap.size = ga at HA ⊢
  clear hga
  generalize (Value.agg #[.int .i64 2, .string ⟨#[97]⟩, .int .i64 0, .string ⟨#[]⟩, .int .i64 0, .string ⟨#[]⟩, .int .i64 0, .string ⟨#[120]⟩, .string ⟨#[]⟩, .string ⟨#[]⟩, .int .i64 0, .string ⟨#[]⟩, .int .i64 0, .slice none 0 0, .int .i64 0, .slice none 0 0]) = va
  generalize (Value.agg #[.int .i64 1, .string ⟨#[98]⟩, .int .i64 0, .string ⟨#[]⟩, .int .i64 0, .string ⟨#[]⟩, .int .i64 0, .string ⟨#[120]⟩, .string ⟨#[]⟩, .string ⟨#[]⟩, .int .i64 0, .string ⟨#[]⟩, .int .i64 0, .slice none 0 0, .int .i64 0, .slice none 0 0]) = vb
  generalize (Value.agg #[.int .i64 5, .string ⟨#[97]⟩, .int .i64 0, .string ⟨#[]⟩, .int .i64 0, .string ⟨#[]⟩, .int .i64 0, .string ⟨#[]⟩, .string ⟨#[]⟩, .string ⟨#[]⟩, .int .i64 1, .string ⟨#[]⟩, .int .i64 2, .slice none 0 0, .int .i64 0, .slice (some ⟨gs, 0, none⟩) 1 1]) = vh
  generalize (Value.agg #[.int .i64 3, .string ⟨#[97]⟩, .int .i64 0, .string ⟨#[]⟩, .int .i64 0, .string ⟨#[]⟩, .int .i64 0, .string ⟨#[120]⟩, .string ⟨#[]⟩, .string ⟨#[]⟩, .int .i64 0, .string ⟨#[]⟩, .int .i64 0, .slice none 0 0, .int .i64 0, .slice none 0 0]) = vg
  obtain ⟨hb, s1, s2⟩ := aw15_rows w5 xh xa xb IH.out IA.out IB.out
  have HR := Lib.hid hb
  have C1 := Lib.hid (HC.out.pairs ⟨⟨#[]⟩, none, 0, [], some ⟨w5.heap.size, 0, none⟩, 2, [xh, xa]⟩ ⟨⟨#[]⟩, none, 0, [], some ⟨w5.heap.size + 1, 0, none⟩, 1, [xb]⟩ _
    ⟨Strs.none_, ⟨fun _ => rfl, Nat.le_refl _⟩, s1.ops, ⟨(fun e => by cases e), Nat.le_refl _⟩⟩ ⟨Strs.none_, ⟨fun _ => rfl, Nat.le_refl _⟩, s2.ops, ⟨(fun e => by cases e), Nat.le_refl _⟩⟩ s1 s2 (Tabs.on HT.out hb) (HN.out.on hb))
  rw [aw15_pairs KH.out KA.out KB.out] at C1
  have HBB1 := Lib.hid (HBB.out.on (ops_two w5 xh xa IH.out.ok IA.out.ok).1)
  clear hb s1 s2
  -- @P1
  go_wp2_with (first | ((with_reducible refine wpList_load_opw (.tmp 1) ga xa HA.out ?_ ?_ ?_ ?_); rfl; rfl; rfl; simp only [Act.put, List.setIfInBounds_toArray, List.set_cons_zero, List.set_cons_succ, Om.val, Om.cells]) | ((with_reducible refine wpList_load_opw (.tmp 2) gb xb HBB.out ?_ ?_ ?_ ?_); rfl; rfl; rfl; simp only [Act.put, List.setIfInBounds_toArray, List.set_cons_zero, List.set_cons_succ, Om.val, Om.cells]) | ((with_reducible refine wpList_load_opw (.tmp 3) gh xh HH.out ?_ ?_ ?_ ?_); rfl; rfl; rfl; simp only [Act.put, List.setIfInBounds_toArray, List.set_cons_zero, List.set_cons_succ, Om.val, Om.cells]) | ((with_reducible refine wpList_load_opw (.tmp 4) gg xg HGG.out ?_ ?_ ?_ ?_); rfl; rfl; rfl; simp only [Act.put, List.setIfInBounds_toArray, List.set_cons_zero, List.set_cons_succ, Om.val, Om.cells]) | ((with_reducible refine wpList_load_opw (.tmp 2) gb xb HBB1.out ?_ ?_ ?_ ?_); rfl; rfl; rfl; simp only [Act.put, List.setIfInBounds_toArray, List.set_cons_zero, List.set_cons_succ, Om.val, Om.cells]) | fail)
  refine C1.out.mono ?_
  rintro e w6 ⟨A1, c1, rfl, hr1, hb0⟩
  have hb := HR.out.trans (hb0.mono HR.out.size)
  obtain ⟨b1, o1, e1, hlt1, hr2⟩ := i2_get hr1 (j := 0) (by decide)
  have RX : Hid (w6.rangeAt b1 o1 [.int .i64 1, .int .i64 0]) := by
    show World.rangeAt _ _ _ _
    simpa using hr2
  have IX : ∀ W, (Instr.indexAt 43 (.slice A1 1 c1) (.int .i64 0)).run Tryd.prog W = .ok (.pointer (some ⟨b1, o1, none⟩)) W := fun W => by
    have h := i2_indexAt (k := 0) (n := 1) (c := c1) e1 (by decide) W
    simpa using h
  replace HA := Lib.hid (HA.out.on hb)
  replace HBB := Lib.hid (HBB.out.on hb)
  replace HH := Lib.hid (HH.out.on hb)
  replace HGG := Lib.hid (HGG.out.on hb)
  replace IA := Lib.hid (IA.out.on hb)
  replace IB := Lib.hid (IB.out.on hb)
  replace IH := Lib.hid (IH.out.on hb)
  replace IG := Lib.hid (IG.out.on hb)
  replace HT := Lib.hid (Tabs.on HT.out hb)
  replace HN := Lib.hid (HN.out.on hb)
  replace HB := Lib.hid (HB.out.trans (hb.mono HB.out.size))
  clear hb hb0 hr1 hr2 e1 hlt1 C1 HR HBB1
  -- @P2
  have C2 := Lib.hid (HC.out.ops xa xb w6 IA.out IB.out HT.out HN.out)
  rw [KA.out, KB.out, aw15_three] at C2
  unfold Om.val Om.cells at C2
  go_wp2_with (first | ((with_reducible refine wpList_load_opw (.tmp 1) ga xa HA.out ?_ ?_ ?_ ?_); rfl; rfl; rfl; simp only [Act.put, List.setIfInBounds_toArray, List.set_cons_zero, List.set_cons_succ, Om.val, Om.cells]) | ((with_reducible refine wpList_load_opw (.tmp 2) gb xb HBB.out ?_ ?_ ?_ ?_); rfl; rfl; rfl; simp only [Act.put, List.setIfInBounds_toArray, List.set_cons_zero, List.set_cons_succ, Om.val, Om.cells]) | ((with_reducible refine wpList_load_opw (.tmp 3) gh xh HH.out ?_ ?_ ?_ ?_); rfl; rfl; rfl; simp only [Act.put, List.setIfInBounds_toArray, List.set_cons_zero, List.set_cons_succ, Om.val, Om.cells]) | ((with_reducible refine wpList_load_opw (.tmp 4) gg xg HGG.out ?_ ?_ ?_ ?_); rfl; rfl; rfl; simp only [Act.put, List.setIfInBounds_toArray, List.set_cons_zero, List.set_cons_succ, Om.val, Om.cells]) | fail)
  refine C2.out.mono ?_
  rintro e w7 ⟨rfl, hb⟩
  replace RX := Lib.hid (orange_on RX.out hb)
  replace HA := Lib.hid (HA.out.on hb)
  replace HBB := Lib.hid (HBB.out.on hb)
  replace HH := Lib.hid (HH.out.on hb)
  replace HGG := Lib.hid (HGG.out.on hb)
  replace IA := Lib.hid (IA.out.on hb)
  replace IB := Lib.hid (IB.out.on hb)
  replace IH := Lib.hid (IH.out.on hb)
  replace IG := Lib.hid (IG.out.on hb)
  replace HT := Lib.hid (Tabs.on HT.out hb)
  replace HN := Lib.hid (HN.out.on hb)
  replace HB := Lib.hid (HB.out.trans (hb.mono HB.out.size))
  clear hb C2
  have C2 := Lib.hid (HC.out.ops xh xh w7 IH.out IH.out HT.out HN.out)
  rw [KH.out, aw15_one] at C2
  unfold Om.val Om.cells at C2
  go_wp2_with (first | ((with_reducible refine wpList_load_opw (.tmp 1) ga xa HA.out ?_ ?_ ?_ ?_); rfl; rfl; rfl; simp only [Act.put, List.setIfInBounds_toArray, List.set_cons_zero, List.set_cons_succ, Om.val, Om.cells]) | ((with_reducible refine wpList_load_opw (.tmp 2) gb xb HBB.out ?_ ?_ ?_ ?_); rfl; rfl; rfl; simp only [Act.put, List.setIfInBounds_toArray, List.set_cons_zero, List.set_cons_succ, Om.val, Om.cells]) | ((with_reducible refine wpList_load_opw (.tmp 3) gh xh HH.out ?_ ?_ ?_ ?_); rfl; rfl; rfl; simp only [Act.put, List.setIfInBounds_toArray, List.set_cons_zero, List.set_cons_succ, Om.val, Om.cells]) | ((with_reducible refine wpList_load_opw (.tmp 4) gg xg HGG.out ?_ ?_ ?_ ?_); rfl; rfl; rfl; simp only [Act.put, List.setIfInBounds_toArray, List.set_cons_zero, List.set_cons_succ, Om.val, Om.cells]) | fail)
  refine C2.out.mono ?_
  rintro e w8 ⟨rfl, hb⟩
  replace RX := Lib.hid (orange_on RX.out hb)
  replace HA := Lib.hid (HA.out.on hb)
  replace HBB := Lib.hid (HBB.out.on hb)
  replace HH := Lib.hid (HH.out.on hb)
  replace HGG := Lib.hid (HGG.out.on hb)
  replace IA := Lib.hid (IA.out.on hb)
  replace IB := Lib.hid (IB.out.on hb)
  replace IH := Lib.hid (IH.out.on hb)
  replace IG := Lib.hid (IG.out.on hb)
  replace HT := Lib.hid (Tabs.on HT.out hb)
  replace HN := Lib.hid (HN.out.on hb)
  replace HB := Lib.hid (HB.out.trans (hb.mono HB.out.size))
  clear hb C2
  have C2 := Lib.hid (HC.out.ops xh xg w8 IH.out IG.out HT.out HN.out)
  rw [KH.out, KG.out, aw15_two] at C2
  unfold Om.val Om.cells at C2
  go_wp2_with (first | ((with_reducible refine wpList_load_opw (.tmp 1) ga xa HA.out ?_ ?_ ?_ ?_); rfl; rfl; rfl; simp only [Act.put, List.setIfInBounds_toArray, List.set_cons_zero, List.set_cons_succ, Om.val, Om.cells]) | ((with_reducible refine wpList_load_opw (.tmp 2) gb xb HBB.out ?_ ?_ ?_ ?_); rfl; rfl; rfl; simp only [Act.put, List.setIfInBounds_toArray, List.set_cons_zero, List.set_cons_succ, Om.val, Om.cells]) | ((with_reducible refine wpList_load_opw (.tmp 3) gh xh HH.out ?_ ?_ ?_ ?_); rfl; rfl; rfl; simp only [Act.put, List.setIfInBounds_toArray, List.set_cons_zero, List.set_cons_succ, Om.val, Om.cells]) | ((with_reducible refine wpList_load_opw (.tmp 4) gg xg HGG.out ?_ ?_ ?_ ?_); rfl; rfl; rfl; simp only [Act.put, List.setIfInBounds_toArray, List.set_cons_zero, List.set_cons_succ, Om.val, Om.cells]) | fail)
  refine C2.out.mono ?_
  rintro e w9 ⟨rfl, hb⟩
  replace RX := Lib.hid (orange_on RX.out hb)
  replace HA := Lib.hid (HA.out.on hb)
  replace HBB := Lib.hid (HBB.out.on hb)
  replace HH := Lib.hid (HH.out.on hb)
  replace HGG := Lib.hid (HGG.out.on hb)
  replace IA := Lib.hid (IA.out.on hb)
  replace IB := Lib.hid (IB.out.on hb)
  replace IH := Lib.hid (IH.out.on hb)
  replace IG := Lib.hid (IG.out.on hb)
  replace HT := Lib.hid (Tabs.on HT.out hb)
  replace HN := Lib.hid (HN.out.on hb)
  replace HB := Lib.hid (HB.out.trans (hb.mono HB.out.size))
  clear hb C2
  have C3 := Lib.hid (HC.out.places xa w9 IA.out HT.out HN.out)
  unfold S2Left at C3
  rw [aw15_place KA.out] at C3
  unfold Om.val Om.cells at C3
  have EQ := fun W => eql_i2 1 0 1 0 W
  simp only [and_self, decide_true] at EQ
  go_wp2_with (first | ((with_reducible refine wpList_load_i2 (.tmp 48) b1 o1 1 0 RX.out ?_ ?_ ?_ ?_); rfl; rfl; rfl; simp only [Act.put, List.setIfInBounds_toArray, List.set_cons_zero, List.set_cons_succ]) | ((with_reducible refine wpList_load_opw (.tmp 1) ga xa HA.out ?_ ?_ ?_ ?_); rfl; rfl; rfl; simp only [Act.put, List.setIfInBounds_toArray, List.set_cons_zero, List.set_cons_succ, Om.val, Om.cells]) | ((with_reducible refine wpList_load_opw (.tmp 2) gb xb HBB.out ?_ ?_ ?_ ?_); rfl; rfl; rfl; simp only [Act.put, List.setIfInBounds_toArray, List.set_cons_zero, List.set_cons_succ, Om.val, Om.cells]) | ((with_reducible refine wpList_load_opw (.tmp 3) gh xh HH.out ?_ ?_ ?_ ?_); rfl; rfl; rfl; simp only [Act.put, List.setIfInBounds_toArray, List.set_cons_zero, List.set_cons_succ, Om.val, Om.cells]) | ((with_reducible refine wpList_load_opw (.tmp 4) gg xg HGG.out ?_ ?_ ?_ ?_); rfl; rfl; rfl; simp only [Act.put, List.setIfInBounds_toArray, List.set_cons_zero, List.set_cons_succ, Om.val, Om.cells]) | fail)
  refine C3.out.mono ?_
  rintro e wa ⟨A2, c2, rfl, _, hb⟩
  have HF := Lib.hid (HB.out.trans (hb.mono HB.out.size))
  clear hb C3 HA HBB HH HGG IA IB IH IG HT HN
  go_wp2
  go_ret
  exact ⟨rfl, HF.out⟩
end Go.Proofs.YtideldgblafhlaaDoor
