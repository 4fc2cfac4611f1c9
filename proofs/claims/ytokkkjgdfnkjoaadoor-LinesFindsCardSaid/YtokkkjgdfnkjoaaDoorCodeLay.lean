
/- code's closure that lays parts behind a text; Text and List. -/
import Derived.Test.YtokkkjgdfnkjoaaDoorMem
import Derived.Test.YtokkkjgdfnkjoaaDoorCodeNum
namespace Go.Proofs.YtokkkjgdfnkjoaaDoor
open Go.RowKit
set_option linter.unusedVariables false

theorem size_mk (l : List UInt8) : (⟨l.toArray⟩ : ByteArray).size = l.length := by simp [ByteArray.size]
/-- What a builder at b of the call's own holds. -/
def Holds (B b : Nat) (l : List UInt8) (w : World) : Prop := Lib.IsBuilderF 45 5 B b (Lib.byteCells l) w
theorem Holds.below {B b : Nat} {l : List UInt8} {w w' : World} (h : Holds B b l w) (hb : Below w.heap.size w w') : Holds B b l w' := builder_below h hb

theorem write_holds (B b : Nat) (l : List UInt8) (s : ByteArray) (w : World) (h : Holds B b l w) (hlen : l.length + s.size ≤ 140737488355328) (hBw : B ≤ w.heap.size) :
    Calls Tryd.prog 24 #[.pointer (some ⟨b, 0, none⟩), .string s] w fun e w' => e = .returned (.tuple #[.int .i64 s.size, .nilIface]) ∧
      (Holds B b (l ++ s.data.toList) w' ∧ Below B w w' ∧ Lib.OthersKept 5 (some b) w w') := by
  refine (write_any B b _ s w h (by rw [Lib.byteCells_length]; exact hlen) hBw).mono ?_
  rintro e w' ⟨he, h1, h2, h3⟩
  exact ⟨he, by unfold Holds; rw [Lib.byteCells_append, ← Lib.strCells_eq]; exact h1, h2, h3⟩

set_option maxRecDepth 100000 in
theorem lay_any (B b : Nat) (l : List UInt8) (A : Option Addr) (ss : List ByteArray) (cap : Nat) (w : World) (h : Holds B b l w) (hs : StrRow w A ss)
    (hsum : l.length + (flat ss).length ≤ 140737488355328) (hn : ss.length ≤ 140737488355328) (hB : B ≤ w.heap.size) :
    Calls Tryd.prog 48 #[.slice A ss.length cap, .pointer (some ⟨b, 0, none⟩)] w fun e w' => e = .returned (.string ⟨(l ++ flat ss).toArray⟩) ∧
      Holds B b (l ++ flat ss) w' ∧ Below B w w' ∧ Lib.OthersKept 5 (some b) w w' := by
  go_enter Tryd.func48, Tryd.ntmps48
  go_wp2
  go_loopw [8] (fun i wr => ∃ k : Nat, k ≤ ss.length ∧ i = .int .i64 (k : Int) ∧ Hid (Holds B b (l ++ flat (ss.take k)) wr) ∧ StrRow wr A ss ∧ Below B w wr ∧ Lib.OthersKept 5 (some b) w wr)
    (fun i _ => ss.length - (intOf i).toNat)
  case atStart => exact ⟨0, Nat.zero_le _, rfl, show Holds B b _ w by simpa [flat] using h, hs, Below.refl _ _, Lib.OthersKept.refl _ _ _⟩
  case round =>
    obtain ⟨k, hk, rfl, hh, hr, hb, ho⟩ := hrel
    have hle := flat_take_le ss k
    clear h hs
    by_cases hlt : k < ss.length
    · have hsz := hb.size
      obtain ⟨g, off, rfl, hc⟩ := hr.at_ hlt
      have hf := flat_take ss k hlt
      have hfl : (l ++ flat (ss.take k)).length + ss[k].size ≤ 140737488355328 := by
        have h2 := flat_take_le ss (k + 1)
        have e : ss[k].data.toList.length = ss[k].size := by simp
        rw [hf, List.length_append] at h2
        rw [List.length_append]
        omega
      have HF := Lib.hid hf
      clear hf hle
      generalize hs : ss[k] = s at *
      go_wp2_with (go_at_call 24; refine (write_holds B b _ s _ hh.out hfl (by omega)).mono ?_; rintro e w1 ⟨rfl, hh1, hb1, ho1⟩)
      obtain ⟨cs, fr, hbk⟩ := builder_block hh.out
      have hr1 := hr.kept ho1 hbk (by decide)
      have hh2 : Hid (Holds B b (l ++ flat (ss.take (k + 1))) w1) := by
        show Holds _ _ _ _
        rw [HF.out, ← List.append_assoc]; exact hh1
      clear hh hh1 hr hbk
      go_roundw
      case rel => exact ⟨k + 1, by omega, by go_num, hh2, hr1, hb.trans hb1, ho.trans ho1⟩
      case measure => simp [intOf]; omega
    · have hk2 : k = ss.length := by omega
      subst hk2
      have hsz := hb.size
      rw [flat_all ss _ (Nat.le_refl _)] at hh
      go_wp2_with (go_at_call 25; refine (string_any B b _ _ hh.out (by omega)).mono ?_; rintro e w1 ⟨rfl, hh1, hb1, ho1⟩)
      go_ret
      exact ⟨rfl, hh1, hb.trans hb1, ho.trans ho1⟩
theorem size_any (n : Int) (w : World) (h0 : 0 ≤ n) (h1 : n ≤ 9223372036854775807) :
    Calls Tryd.prog 39 #[.int .i64 n] w fun e w' => e = .returned (.string ⟨(numB n.toNat).toArray⟩) ∧ Below w.heap.size w w' := by
  go_enter Tryd.func39, Tryd.ntmps39
  go_wp2_with (go_at_call 49; refine (num_any _ _ h0 (by omega)).mono ?_; rintro e w1 ⟨rfl, hb⟩)
  go_ret
  exact ⟨rfl, hb⟩

/-- A new builder holds nothing. -/
theorem holds_new (w : World) : Holds w.heap.size w.heap.size [] (w.alloc (.cells #[.pointer none, .slice none 0 0] 45)) :=
  .inl ⟨Nat.le_refl _, .slice none 0 0, heap_alloc_new w _, World.ownsRowF_nil _ _ _ _, by simp [Value.ownBlock]⟩

set_option maxRecDepth 100000 in
theorem layer_any (s : ByteArray) (w : World) (hs : s.size ≤ 140737488355328) :
    Calls Tryd.prog 38 #[.string s] w fun e w' => e = .returned (.func (Fn.func 48) #[] #[.pointer (some ⟨w.heap.size, 0, none⟩)]) ∧ Holds w.heap.size w.heap.size s.data.toList w' ∧ Below w.heap.size w w' := by
  have hh := holds_new w
  have HH := Lib.hid hh
  clear hh
  go_enter Tryd.func38, Tryd.ntmps38
  go_wp2_with (go_at_call 24; refine (write_holds _ _ _ s _ HH.out (by simpa using hs) (by simp)).mono ?_; rintro e w1 ⟨rfl, hh1, hb1, ho1⟩)
  go_ret
  exact ⟨rfl, by simpa using hh1, ((Below.refl _ w).alloc (Nat.le_refl _) _).trans hb1⟩

/-- Two strings in a new row. -/
theorem strRow_new1 (w : World) (a : ByteArray) : StrRow (w.alloc (.cells #[.string a] 9)) (some ⟨w.heap.size, 0, none⟩) [a] := fun _ =>
  ⟨_, _, _, _, rfl, heap_alloc_new w _, fun j hj => by
    obtain rfl : j = 0 := by simp at hj; omega
    simp⟩
theorem strRow_new2 (w : World) (a b : ByteArray) : StrRow (w.alloc (.cells #[.string a, .string b] 9)) (some ⟨w.heap.size, 0, none⟩) [a, b] := fun _ =>
  ⟨_, _, _, _, rfl, heap_alloc_new w _, fun j hj => by
    match j, hj with
    | 0, _ => rfl
    | 1, _ => rfl
    | k + 2, h => simp at h; omega⟩

end Go.Proofs.YtokkkjgdfnkjoaaDoor
