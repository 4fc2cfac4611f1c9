/- The reference's Right, Check, Text, Split, At of layer 3. What package clash's calls are to do. A whole operation read out of a row's middle. -/
import Derived.Lib.SlicesCompact
import Derived.BigQuiet
import Derived.Deep.QuietTactic
import Derived.Handy
import Derived.Test.YtideldgblafhlaaDoorShelf
import Derived.Lib.LaidU8
import Derived.BigRegion
import Derived.Test.YtideldgblafhlaaDoorProg
import Derived.WalkKit
import Derived.WalkSpells
import Derived.Lib.Hide
import Derived.Shelf.Strings.BuilderK
import Derived.Deep.MidRow
import Derived.Deep.RegionHeld
import Derived.Test.YtideldgblafhlaaDoorCk05
import Derived.Test.YtideldgblafhlaaDoorCk07
namespace Go.Proofs.YtideldgblafhlaaDoor
open Go.RowKit
set_option linter.unusedVariables false

/-- unicode/utf8's two tables lie in their variables. -/
def Tabs (w : World) : Prop := Lib.Utf8Tabs 1 2 w
theorem cell_lt {w : World} {b o : Nat} {v : Value} (h : w.cell? ⟨b, o, none⟩ = some v) : b < w.heap.size := by
  unfold World.cell? at h
  rcases Nat.lt_or_ge b w.heap.size with h1 | h1
  · exact h1
  · rw [Array.getElem?_eq_none h1] at h
    simp at h
theorem Tabs.on {w w' : World} (h : Tabs w) (hb : Below w.heap.size w w') : Tabs w' :=
  ⟨fun c hc => (hb.cell (p := ⟨_, c, none⟩) (cell_lt (h.1 c hc))).trans (h.1 c hc),
   fun i hi => ⟨(hb.cell (p := ⟨_, 2 * i, none⟩) (cell_lt (h.2 i hi).1)).trans (h.2 i hi).1, (hb.cell (p := ⟨_, 2 * i + 1, none⟩) (cell_lt (h.2 i hi).2)).trans (h.2 i hi).2⟩⟩

theorem decode_tail (s : ByteArray) (i : Nat) (h : i < s.size) (w : World) (hT : Tabs w) :
    Calls Tryd.prog 56 #[.string (s.extract i s.size)] w fun e w' => e = .returned (.tuple #[.int .i32 (Utf8.decode s i).1, .int .i64 (Utf8.decode s i).2]) ∧ Below w.heap.size w w' := by
  have h1 := Tryd.utf8_DecodeRuneInString (s.extract i s.size) w hT
  rw [decodeGo_tail s i h] at h1
  exact h1

set_option maxRecDepth 100000 in
theorem refline_any (s : ByteArray) (w : World) (hs : s.size ≤ 9223372036854775807) (hT : Tabs w) :
    Calls Tryd.prog 48 #[.string s] w fun e w' => e = .returned (.bool (lineB s)) ∧ Below w.heap.size w w' := by
  by_cases h2 : 200 < s.size
  · have hr : lineB s = false := by simp [lineB]; omega
    rw [hr]
    go_enter Tryd.func48, Tryd.ntmps48
    go_wp2
    go_ret
    exact ⟨rfl, Below.refl _ _⟩
  · have hr : Hid (lineB s = runes s 0) := by show _ = _; simp [lineB]; omega
    have HT := Lib.hid hT
    clear hT
    go_enter Tryd.func48, Tryd.ntmps48
    go_wp2
    go_loopw [3] (fun i wr => ∃ k : Nat, k ≤ s.size + 4 ∧ i = .int .i64 (k : Int) ∧ Hid (runes s 0 = runes s k) ∧ Below w.heap.size w wr) (fun i _ => s.size - (intOf i).toNat)
    case atStart => exact ⟨0, Nat.zero_le _, rfl, rfl, Below.refl _ _⟩
    case round =>
      obtain ⟨k, hk, rfl, heq, hb⟩ := hrel
      by_cases hlt : k < s.size
      · have hc := Lib.hid (decode_tail s k hlt wr (HT.out.on hb))
        have hp := decode_pos s k
        have hp2 := decode_le s k
        have hp3 := decode_rune s k
        have hg := runes_good (s := s) (i := k) hlt
        have hbad := runes_bad (s := s) (i := k) hlt
        obtain ⟨r, n, hd⟩ : ∃ r n, Utf8.decode s k = (r, n) := ⟨_, _, rfl⟩
        rw [hd] at hc hp hp2 hp3 hg hbad
        simp only at hc hp hp2 hp3 hg
        clear hd
        cases hbr : badRune (r, n) with
        | true =>
          have hno : Hid (lineB s = false) := by show _ = _; rw [hr.out, heq.out]; exact hbad hbr
          clear hg hbad heq hr
          have hbc : (r = 65533 ∧ n = 1) ∨ (r < 32 ∧ r ≠ 9) := by simpa [badRune] using hbr
          clear hbr
          rcases hbc with ⟨rfl, rfl⟩ | ⟨b1, b2⟩
          · go_wp2_with (go_at_call 56; refine hc.out.mono ?_; rintro e w1 ⟨rfl, hb1⟩)
            go_ret
            rw [hno.out]
            exact ⟨rfl, hb.trans (hb1.mono hb.size)⟩
          · have q1 : ((r : Int) == 65533) = false := by rw [beq_eq_false_iff_ne]; omega
            have q2 : (r : Int) < 32 := by omega
            have q3 : ((r : Int) != 9) = true := by simp; omega
            go_wp2_with (go_at_call 56; refine hc.out.mono ?_; rintro e w1 ⟨rfl, hb1⟩)
            go_ret
            rw [hno.out]
            exact ⟨rfl, hb.trans (hb1.mono hb.size)⟩
        | false =>
          have hok : Hid (runes s 0 = runes s (k + n)) := by show _ = _; rw [heq.out]; exact hg hbr
          clear hg hbad heq
          have hgc : ¬ (r = 65533 ∧ n = 1) ∧ ¬ (r < 32 ∧ r ≠ 9) := by
            have := hbr
            simp [badRune] at this
            omega
          clear hbr
          obtain ⟨g1, g2⟩ := hgc
          by_cases e1 : r = 65533
          · subst e1
            have q2 : ((n : Int) == 1) = false := by rw [beq_eq_false_iff_ne]; omega
            go_wp2_with (go_at_call 56; refine hc.out.mono ?_; rintro e w1 ⟨rfl, hb1⟩)
            have hb2 := hb.trans (hb1.mono hb.size)
            go_roundw
            case rel => exact ⟨k + n, by omega, by go_num, hok, hb2⟩
            case measure => simp [intOf]; omega
          · have q1 : ((r : Int) == 65533) = false := by rw [beq_eq_false_iff_ne]; omega
            by_cases e2 : r = 9
            · subst e2
              go_wp2_with (go_at_call 56; refine hc.out.mono ?_; rintro e w1 ⟨rfl, hb1⟩)
              have hb2 := hb.trans (hb1.mono hb.size)
              go_roundw
              case rel => exact ⟨k + n, by omega, by go_num, hok, hb2⟩
              case measure => simp [intOf]; omega
            · have q2 : ¬ (r : Int) < 32 := by omega
              go_wp2_with (go_at_call 56; refine hc.out.mono ?_; rintro e w1 ⟨rfl, hb1⟩)
              have hb2 := hb.trans (hb1.mono hb.size)
              go_roundw
              case rel => exact ⟨k + n, by omega, by go_num, hok, hb2⟩
              case measure => simp [intOf]; omega
      · have hfin : Hid (lineB s = true) := by show _ = _; rw [hr.out, heq.out]; exact runes_end hlt
        clear heq hr
        go_wp2
        go_ret
        rw [hfin.out]
        exact ⟨rfl, hb⟩

set_option maxRecDepth 100000 in
theorem refcheck_any (A : Option Addr) (ss : List ByteArray) (cap : Nat) (w : World) (hs : Strs w w.heap.size A ss) (hn : ss.length ≤ 9223372036854775807) (hz : ∀ s ∈ ss, s.size ≤ 9223372036854775807) (hT : Tabs w) :
    Calls Tryd.prog 37 #[.slice A ss.length cap] w fun e w' => e = .returned (.int .i64 (checkN ss)) ∧ Below w.heap.size w w' := by
  by_cases h2 : 2000 < ss.length
  · rw [checkN_big h2]
    go_enter Tryd.func37, Tryd.ntmps37
    go_wp2
    go_ret
    exact ⟨rfl, Below.refl _ _⟩
  · have HT := Lib.hid hT
    have HS := Lib.hid hs
    have HZ := Lib.hid hz
    clear hT hs hz
    go_enter Tryd.func37, Tryd.ntmps37
    go_wp2
    go_loopw [3] (fun i wr => ∃ k : Nat, k ≤ ss.length ∧ i = .int .i64 (k : Int) ∧ Hid (∀ j (hj : j < ss.length), j < k → lineB ss[j] = true) ∧ Below w.heap.size w wr) (fun i _ => ss.length - (intOf i).toNat)
    case atStart => exact ⟨0, Nat.zero_le _, rfl, fun j _ h => absurd h (by omega), Below.refl _ _⟩
    case round =>
      obtain ⟨k, hk, rfl, hall, hb⟩ := hrel
      by_cases hlt : k < ss.length
      · obtain ⟨g, off, rfl, hg, hc⟩ := (HS.out.below hb).at_ hlt
        have hl := Lib.hid (refline_any ss[k] wr (HZ.out _ (List.getElem_mem _)) (HT.out.on hb))
        cases hx : lineB ss[k] with
        | true =>
          have hall2 : Hid (∀ j (hj : j < ss.length), j < k + 1 → lineB ss[j] = true) := by
            intro j hj hjk
            by_cases h : j = k
            · subst h; exact hx
            · exact hall.out j hj (by omega)
          rw [hx] at hl
          generalize ss[k] = s at *
          clear hall hx
          go_wp2_with (go_at_call 48; refine hl.out.mono ?_; rintro e w1 ⟨rfl, hb1⟩)
          have hb2 := hb.trans (hb1.mono hb.size)
          go_roundw
          case rel => exact ⟨k + 1, by omega, by go_num, hall2, hb2⟩
          case measure => simp [intOf]; omega
        | false =>
          have hno : Hid (checkN ss = 6) := checkN_bad h2 hlt hx
          rw [hx] at hl
          generalize ss[k] = s at *
          clear hall hx
          go_wp2_with (go_at_call 48; refine hl.out.mono ?_; rintro e w1 ⟨rfl, hb1⟩)
          go_ret
          rw [hno.out]
          exact ⟨rfl, hb.trans (hb1.mono hb.size)⟩
      · have hk2 : k = ss.length := by omega
        subst hk2
        have hyes : Hid (checkN ss = 0) := checkN_ok h2 fun j hj => hall.out j hj hj
        clear hall
        go_wp2
        go_ret
        rw [hyes.out]
        exact ⟨rfl, hb⟩

end Go.Proofs.YtideldgblafhlaaDoor
namespace Go.Proofs.YtideldgblafhlaaDoor
open Go.RowKit
set_option linter.unusedVariables false

/-- An operation that may be, and is light, as it lies. -/
structure OIn (x : Om) (w : World) : Prop where
  ok : x.Ok w w.heap.size
  may : mayO x.key = true
  lt : x.Lt
  inn : x.In
theorem OIn.on {x : Om} {w w' : World} (h : OIn x w) (hb : Below w.heap.size w w') : OIn x w' := ⟨h.ok.on hb, h.may, h.lt, h.inn⟩
/-- Light operations that may be, in a row. -/
structure OsIn (w : World) (A : Option Addr) (l : List Om) : Prop where
  ops : Ops w w.heap.size A l
  few : l.length ≤ 40
  may : ∀ x ∈ l, mayO x.key = true
  lt : ∀ x ∈ l, x.Lt
  inn : ∀ x ∈ l, x.In
theorem OsIn.on {w w' : World} {A : Option Addr} {l : List Om} (h : OsIn w A l) (hb : Below w.heap.size w w') : OsIn w' A l := ⟨h.ops.on hb, h.few, h.may, h.lt, h.inn⟩
theorem OsIn.get {w : World} {A : Option Addr} {l : List Om} (h : OsIn w A l) {x : Om} (hx : x ∈ l) : OIn x w := ⟨h.ops.2 x hx, h.may x hx, h.lt x hx, h.inn x hx⟩
/-- The places of an operation, as texts. -/
def placesT (x : Om) : List (ByteArray × ByteArray) := (placesO x.key).map fun p => (toB (textK p.1), toB p.2)
/-- Which operations clash with which, as numbers. -/
def pairsT (p q : List Om) : List (Int × Int) := (pairsC (okeys p) (okeys q)).map fun z => ((z.1 : Int), (z.2 : Int))
def S2Left (w : World) (l : List (ByteArray × ByteArray)) (e : Ending) (w' : World) : Prop := ∃ A cap, e = .returned (.slice A l.length cap) ∧ s2R.Row w' w'.heap.size A l ∧ Below w.heap.size w w'
def I2Left (w : World) (l : List (Int × Int)) (e : Ending) (w' : World) : Prop := ∃ A cap, e = .returned (.slice A l.length cap) ∧ i2R.Row w' w'.heap.size A l ∧ Below w.heap.size w w'
/-- Package clash, of light operations that may be. -/
structure ClashC : Prop where
  places : ∀ (x : Om) (w : World), OIn x w → Tabs w → Nums w → Calls Tryd.prog 7 #[x.val] w (S2Left w (placesT x))
  ops : ∀ (x y : Om) (w : World), OIn x w → OIn y w → Tabs w → Nums w → Calls Tryd.prog 10 #[x.val, y.val] w fun e w' => e = .returned (.int .i64 (clashO x.key y.key)) ∧ Below w.heap.size w w'
  pairs : ∀ (p q : Ptm) (w : World), p.Ok w w.heap.size → q.Ok w w.heap.size → OsIn w p.a2 p.ops → OsIn w q.a2 q.ops → Tabs w → Nums w → Calls Tryd.prog 12 #[p.val, q.val] w (I2Left w (pairsT p.ops q.ops))
  patches : ∀ (p q : Ptm) (w : World), p.Ok w w.heap.size → q.Ok w w.heap.size → OsIn w p.a2 p.ops → OsIn w q.a2 q.ops → Tabs w → Nums w → Calls Tryd.prog 13 #[p.val, q.val] w fun e w' => e = .returned (.int .i64 (patchesC (okeys p.ops) (okeys q.ops))) ∧ Below w.heap.size w w'
/-- awake of layer 15. -/
def AwC : Prop := ∀ w : World, Tabs w → Nums w → Calls Tryd.prog 6 #[] w fun e w' => e = .returned (.bool true) ∧ Below w.heap.size w w'
end Go.Proofs.YtideldgblafhlaaDoor
namespace Go.Proofs.YtideldgblafhlaaDoor
open Go.RowKit
set_option linter.unusedVariables false

theorem op_rngm {w : World} {b o k : Nat} {x : Om} (h : ∀ (r : Nat) (u : Value), (opR.enc x)[r]? = some u → w.cell? ⟨b, o + k * opR.k + r, none⟩ = some u) : w.rangeAt b (o + k * 16) x.cells := fun j v hv => h j v hv
theorem orange_on {w w' : World} {b o : Nat} {cs : List Value} (h : w.rangeAt b o cs) (hb : Below w.heap.size w w') : w'.rangeAt b o cs := fun j v hv => cell_on (h j v hv) hb
theorem wpList_load_opm {ops : Array Oper} {rest : List Oper} {op : Oper} {a : Act} {w : World} {Q : Exit → Act → World → Prop} (x : Operand) (b o : Nat) (z : Om) (hz : w.rangeAt b o z.cells) (ho : op.op = .load 27 x) (hw : Region.wanted op (yielded ops a.tmps) = true)
    (hx : a.eval x = .pointer (some ⟨b, o, none⟩)) (h : wpList Tryd.prog ops Q rest (a.put op.dst z.val) w) : wpList Tryd.prog ops Q (op :: rest) a w :=
  wpList_step fun K hK => by
    simp only [hw, if_true]
    exact wp_load_mid 27 x ho b o hx z.cells _ hz Tryd.underlying27 rfl (by kernel_rfl) (hK _ _ h)
end Go.Proofs.YtideldgblafhlaaDoor
