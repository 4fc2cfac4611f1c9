/- Package clash: cutter. -/
import Derived.Lib.SlicesCompact
import Derived.Test.YtideldgblafhlaaDoorShelf
import Derived.BigQuiet
import Derived.Deep.QuietTactic
import Derived.Laws.EntriesVeiled
import Derived.Test.YtideldgblafhlaaDoorCk14
namespace Go.Proofs.YtideldgblafhlaaDoor
open Go.RowKit Go.Sort
set_option linter.unusedVariables false

/-- cutter leaves a function. -/
def CutLeft (n₀ b o : Nat) (x : Om) (w : World) (e : Ending) (w' : World) : Prop := ∃ caps, e = .returned (.func (.func 53) #[] caps) ∧ CutS n₀ w' caps b o x ∧ Below w.heap.size w w'
set_option maxHeartbeats 4000000 in
set_option maxRecDepth 100000 in
theorem ccutter_any (n₀ b o : Nat) (x : Om) (w : World) (hx : OpPl w n₀ b o x) (hn : n₀ ≤ w.heap.size) (hg : x.Rg) :
    Calls Tryd.prog 41 #[.pointer (some ⟨b, o, none⟩)] w (CutLeft n₀ b o x w) := by
  have hal : Below w.heap.size w (w.alloc (.cells #[.pointer (some ⟨b, o, none⟩)] 54)) := (Below.refl _ _).alloc (Nat.le_refl _) _
  have HA := Lib.hid (Boxed.new w 54 (.pointer (some ⟨b, o, none⟩)))
  have HX := Lib.hid (hx.kp (KpT.of hal hn))
  have HB := Lib.hid hal
  have HN : Hid (n₀ ≤ (w.alloc (.cells #[.pointer (some ⟨b, o, none⟩)] 54)).heap.size) := Nat.le_trans hn hal.size
  have HG := Lib.hid hg
  clear hx hn hg hal
  go_enter Tryd.func41, Tryd.ntmps41
  go_upto_region 1 with (fail)
  generalize (w.alloc (.cells #[.pointer (some ⟨b, o, none⟩)] 54)) = wa at *
  generalize hga : w.heap.size = ga at *
  have a0 := HA.out.cell
  have d0 := HX.out.c.dels
  have C := Lib.hid (camong_any n₀ x.a1 x.dels x.c1 wa HX.out.ok.dels HN.out (Nat.le_trans HG.out.few (by decide)) HG.out.dels)
  go_wp2_with fail
  refine C.out.mono ?_
  rintro e w1 ⟨f, acaps, rfl, ham, hb1⟩
  have hal2 : Below w1.heap.size w1 (w1.alloc (.cells #[.func (.func f) #[] acaps] 56)) := (Below.refl _ _).alloc (Nat.le_refl _) _
  have hal3 : Below (w1.alloc (.cells #[.func (.func f) #[] acaps] 56)).heap.size (w1.alloc (.cells #[.func (.func f) #[] acaps] 56)) ((w1.alloc (.cells #[.func (.func f) #[] acaps] 56)).alloc (.cells #[.func (.func 52) #[] #[.pointer (some ⟨ga, 0, none⟩), .pointer (some ⟨w1.heap.size, 0, none⟩)]] 56)) := (Below.refl _ _).alloc (Nat.le_refl _) _
  have bg := (Boxed.new w1 56 (.func (.func f) #[] acaps)).alloc (.cells #[.func (.func 52) #[] #[.pointer (some ⟨ga, 0, none⟩), .pointer (some ⟨w1.heap.size, 0, none⟩)]] 56)
  have bh := Boxed.new (w1.alloc (.cells #[.func (.func f) #[] acaps] 56)) 56 (.func (.func 52) #[] #[.pointer (some ⟨ga, 0, none⟩), .pointer (some ⟨w1.heap.size, 0, none⟩)])
  rw [World.size_alloc] at bh
  have hb23 := hal2.trans (hal3.mono hal2.size)
  have hb4 := hb1.trans (hb23.mono hb1.size)
  have k1 := KpT.of hb1 HN.out
  have k23 := KpT.of hb23 (Nat.le_trans HN.out hb1.size)
  have HV : Hid (CutLeft n₀ b o x w (.returned (.func (.func 53) #[] #[.pointer (some ⟨ga, 0, none⟩), .pointer (some ⟨w1.heap.size, 0, none⟩), .pointer (some ⟨w1.heap.size + 1, 0, none⟩)])) ((w1.alloc (.cells #[.func (.func f) #[] acaps] 56)).alloc (.cells #[.func (.func 52) #[] #[.pointer (some ⟨ga, 0, none⟩), .pointer (some ⟨w1.heap.size, 0, none⟩)]] 56))) := by
    refine ⟨_, rfl, ⟨_, _, _, f, acaps, rfl, ⟨(k1.trans k23).box HA.out, HX.out.kp (k1.trans k23), bg, ham.kp k23⟩, bh⟩, ?_⟩
    rw [hga]
    exact HB.out.trans (hb4.mono (by rw [← hga]; exact HB.out.size))
  clear ham hb1 hal2 hal3 bg bh hb23 hb4 k1 k23 a0 d0 C HA HX HN HG
  go_wp2
  go_ret
  exact HV.out
end Go.Proofs.YtideldgblafhlaaDoor
