/- The reference's Right, Check, Text, Split, At of layer 3. lines.Right and lines.Check. Package op: which places of a move, which lines of a hunk are right. The library's sort of records in a block of their own: what its worlds leave there. cmp.Or of two numbers. Package ident's order, Less: strings.Compare, cmp.Compare, cmp.Or. -/
import Derived.BigQuiet
import Derived.Deep.QuietTactic
import Derived.Handy
import Derived.Test.YtifkpelcdihdoaaGreatDoorShelf
import Derived.Lib.LaidU8
import Derived.BigRegion
import Derived.Lib.ValidLaws
import Derived.Lib.TrimUEq
import Derived.Lib.OthersKept
import Derived.Shelf.Unicode.ValidAny
import Derived.Shelf.GgSortFunc.InsertionK
import Derived.Deep.RegionHeld3
import Derived.Test.YtifkpelcdihdoaaGreatDoorCk06
namespace Go.Proofs.YtifkpelcdihdoaaGreatDoor
open Go.RowKit
set_option linter.unusedVariables false

/-- unicode/utf8's two tables lie in their variables. -/
def Tabs (w : World) : Prop := Lib.Utf8Tabs 1 2 w
theorem cell_lt {w : World} {b o : Nat} {v : Value} (h : w.cell? ⟨b, o, none⟩ = some v) : b < w.heap.size := by
  unfold World.cell? at h
  rcases Nat.lt_or_ge b w.heap.size with h1 | h1
  · exact h1
  · rw [Array.getElem?_eq_none h1] at h
    simp at h
theorem Tabs.on {w w' : World} (h : Tabs w) (hb : Below w.heap.size w w') : Tabs w' :=
  ⟨fun c hc => (hb.cell (p := ⟨_, c, none⟩) (cell_lt (h.1 c hc))).trans (h.1 c hc),
   fun i hi => ⟨(hb.cell (p := ⟨_, 2 * i, none⟩) (cell_lt (h.2 i hi).1)).trans (h.2 i hi).1, (hb.cell (p := ⟨_, 2 * i + 1, none⟩) (cell_lt (h.2 i hi).2)).trans (h.2 i hi).2⟩⟩

end Go.Proofs.YtifkpelcdihdoaaGreatDoor
namespace Go.Proofs.YtifkpelcdihdoaaGreatDoor
open Go.RowKit
set_option linter.unusedVariables false

/-- Is what stands from byte k on valid UTF-8? -/
def vd (s : ByteArray) (k : Nat) : Bool := Lib.validD (s.data.toList.drop k)
theorem vd_step (s : ByteArray) (k : Nat) (h : k < s.size) : vd s k = if (Utf8.decode s k).1 = 65533 ∧ (Utf8.decode s k).2 = 1 then false else vd s (k + (Utf8.decode s k).2) := by
  unfold vd
  have hne : s.data.toList.drop k ≠ [] := by
    intro e
    have := congrArg List.length e
    simp at this
    omega
  rw [Lib.validD_step _ hne, Lib.decodeL_drop, List.drop_drop]
theorem vd_runes (s : ByteArray) : ∀ (f k : Nat), s.size - k ≤ f → vd s k = false → runes s k = false
  | 0, k, hf, h => by
    have e : s.data.toList.drop k = [] := List.drop_of_length_le (by simp; omega)
    unfold vd at h
    rw [e] at h
    cases h
  | f + 1, k, hf, h => by
    by_cases hk : k < s.size
    · have hp := decode_pos s k
      rw [vd_step s k hk] at h
      by_cases hb : badRune (Utf8.decode s k) = true
      · exact runes_bad hk hb
      · rw [Bool.not_eq_true] at hb
        rw [runes_good hk hb]
        split at h
        · rename_i hx
          obtain ⟨h1, h2⟩ := hx
          simp [badRune, h1, h2] at hb
        · exact vd_runes s f _ (by omega) h
    · have e : s.data.toList.drop k = [] := List.drop_of_length_le (by simp; omega)
      unfold vd at h
      rw [e] at h
      cases h
theorem vd_next {s : ByteArray} {k : Nat} (h : k < s.size) (hv : vd s k = true) : vd s (k + (Utf8.decode s k).2) = true ∧ (badRune (Utf8.decode s k) = decide ((Utf8.decode s k).1 < 32 ∧ (Utf8.decode s k).1 ≠ 9)) := by
  rw [vd_step s k h] at hv
  split at hv
  · cases hv
  · rename_i hx
    refine ⟨hv, ?_⟩
    unfold badRune
    rw [Bool.eq_iff_iff]
    simp only [Bool.or_eq_true, Bool.and_eq_true, beq_iff_eq, decide_eq_true_eq, Bool.not_eq_true', beq_eq_false_iff_ne]
    constructor
    · rintro (h1 | h1)
      · exact absurd h1 hx
      · exact h1
    · exact fun h1 => .inr h1

theorem valid_any (s : ByteArray) (w : World) (hs : s.size ≤ 9223372036854775807) (hT : Tabs w) :
    Calls Tryz.prog 177 #[.string s] w fun e w' => e = .returned (.bool (vd s 0)) ∧ Below w.heap.size w w' :=
  Any.utf8_ValidString Tryz.lays196 s w hs hT

set_option maxRecDepth 100000 in
theorem lright_any (s : ByteArray) (w : World) (hs : s.size ≤ 9223372036854775807) (hT : Tabs w) :
    Calls Tryz.prog 168 #[.string s] w fun e w' => e = .returned (.bool (lineB s)) ∧ Below w.heap.size w w' := by
  have HV := Lib.hid (valid_any s w hs hT)
  clear hT
  by_cases h2 : 200 < s.size
  · have hr : lineB s = false := by simp [lineB]; omega
    rw [hr]
    go_enter Tryz.func168, Tryz.ntmps168
    go_wp2
    go_ret
    exact ⟨rfl, Below.refl _ _⟩
  · have hr : Hid (lineB s = runes s 0) := by show _ = _; simp [lineB]; omega
    cases hv : vd s 0 with
    | false =>
      have hno : Hid (lineB s = false) := by show _ = _; rw [hr.out]; exact vd_runes s s.size 0 (by omega) hv
      rw [hv] at HV
      clear hr hv
      go_enter Tryz.func168, Tryz.ntmps168
      go_wp2_with (go_at_call 177; refine HV.out.mono ?_; rintro e w1 ⟨rfl, hb⟩)
      go_ret
      rw [hno.out]
      exact ⟨rfl, hb⟩
    | true =>
      rw [hv] at HV
      have HD := Lib.hid hv
      clear hv
      go_enter Tryz.func168, Tryz.ntmps168
      go_wp2_with (go_at_call 177; refine HV.out.mono ?_; rintro e w1 ⟨rfl, hb⟩)
      have hk0 : (w1.iter s 0).heap[w1.heap.size]? = some (.stringIter s 0) := World.iter_heap w1 s 0
      have hb0 : Below w.heap.size w (w1.iter s 0) := hb.alloc hb.size _
      have hB := hb.size
      go_loopw [4] (fun _ wr => ∃ pos : Nat, wr.heap[w1.heap.size]? = some (.stringIter s pos) ∧ Hid (vd s pos = true) ∧ Hid (runes s 0 = runes s pos) ∧ Below w.heap.size w wr) (fun _ wr => s.size - wr.iterPos w1.heap.size)
      case atStart => exact ⟨0, hk0, HD.out, rfl, hb0⟩
      case round =>
        obtain ⟨pos, hk, hvd, heq, hbr⟩ := hrel
        have hmu : wr.iterPos w1.heap.size = pos := by simp [World.iterPos, hk]
        clear hk0 hb0 HD
        by_cases hp : pos < s.size
        · have hnext : ∀ ty, (Instr.next (.pointer (some ⟨w1.heap.size, 0, none⟩)) true ty).run Tryz.prog wr = _ := fun ty => Lib.run_next_any_at wr w1.heap.size s pos ty hk hp
          have hk1 := Lib.iterAt_heap wr w1.heap.size s pos (pos + (Utf8.decode s pos).2) hk
          have hb1 : Below w.heap.size w (wr.iterAt w1.heap.size s (pos + (Utf8.decode s pos).2)) := Lib.below_iterAt hbr hB s _
          obtain ⟨hv1, hbad⟩ := vd_next hp hvd.out
          have hwp := decode_pos s pos
          have hrl := decode_le s pos
          have hgood := runes_good (s := s) (i := pos) hp
          have hfalse := runes_bad (s := s) (i := pos) hp
          by_cases hx : (Utf8.decode s pos).1 < 32 ∧ (Utf8.decode s pos).1 ≠ 9
          · have hno : Hid (lineB s = false) := by
              show _ = _
              rw [hr.out, heq.out]
              exact hfalse (by rw [hbad, decide_eq_true_eq]; exact hx)
            obtain ⟨x1, x2⟩ := hx
            have q1 : ((Utf8.decode s pos).1 : Int) < 32 := by omega
            have q2 : (((Utf8.decode s pos).1 : Int) != 9) = true := by simp; omega
            clear hbad hgood hfalse heq hvd
            generalize Utf8.decode s pos = d at *
            go_wp2
            go_ret
            rw [hno.out]
            exact ⟨rfl, hb1⟩
          · have hok : Hid (runes s 0 = runes s (pos + (Utf8.decode s pos).2)) := by
              show _ = _
              rw [heq.out]
              exact hgood (by rw [hbad, decide_eq_false_iff_not]; exact hx)
            have HV1 := Lib.hid hv1
            have hk2 := hk1
            clear hbad hgood hfalse heq hvd hv1
            generalize Utf8.decode s pos = d at *
            by_cases h9 : d.1 = 9
            · have q1 : ((d.1 : Int) != 9) = false := by rw [h9]; rfl
              have q2 : ((d.1 : Int) < 32) := by omega
              clear h9 hx
              go_wp2
              go_roundw
              case rel => exact ⟨pos + d.2, hk2, HV1.out, hok, hb1⟩
              case measure =>
                have e : (wr.iterAt w1.heap.size s (pos + d.2)).iterPos w1.heap.size = pos + d.2 := by simp [World.iterPos, hk2]
                rw [e, hmu]; omega
            · have q2 : ¬ ((d.1 : Int) < 32) := by omega
              clear h9 hx
              go_wp2
              go_roundw
              case rel => exact ⟨pos + d.2, hk2, HV1.out, hok, hb1⟩
              case measure =>
                have e : (wr.iterAt w1.heap.size s (pos + d.2)).iterPos w1.heap.size = pos + d.2 := by simp [World.iterPos, hk2]
                rw [e, hmu]; omega
        · have hnext : ∀ ty, (Instr.next (.pointer (some ⟨w1.heap.size, 0, none⟩)) true ty).run Tryz.prog wr = _ := fun ty => Lib.run_next_end_at wr w1.heap.size s pos ty hk hp
          have hfin : Hid (lineB s = true) := by show _ = _; rw [hr.out, heq.out]; exact runes_end hp
          clear heq hvd
          go_wp2
          go_ret
          rw [hfin.out]
          exact ⟨rfl, hbr⟩

set_option maxRecDepth 100000 in
theorem lcheck_any (A : Option Addr) (ss : List ByteArray) (cap : Nat) (w : World) (hs : Strs w w.heap.size A ss) (hn : ss.length ≤ 9223372036854775807) (hz : ∀ s ∈ ss, s.size ≤ 9223372036854775807) (hT : Tabs w) :
    Calls Tryz.prog 164 #[.slice A ss.length cap] w fun e w' => e = .returned (.int .i64 (checkN ss)) ∧ Below w.heap.size w w' := by
  by_cases h2 : 2000 < ss.length
  · rw [checkN_big h2]
    go_enter Tryz.func164, Tryz.ntmps164
    go_wp2
    go_ret
    exact ⟨rfl, Below.refl _ _⟩
  · have HT := Lib.hid hT
    have HS := Lib.hid hs
    have HZ := Lib.hid hz
    clear hT hs hz
    go_enter Tryz.func164, Tryz.ntmps164
    go_wp2
    go_loopw [10] (fun i wr => ∃ k : Nat, k ≤ ss.length ∧ i = .int .i64 (k : Int) ∧ Hid (∀ j (hj : j < ss.length), j < k → lineB ss[j] = true) ∧ Below w.heap.size w wr) (fun i _ => ss.length - (intOf i).toNat)
    case atStart => exact ⟨0, Nat.zero_le _, rfl, fun j _ h => absurd h (by omega), Below.refl _ _⟩
    case round =>
      obtain ⟨k, hk, rfl, hall, hb⟩ := hrel
      by_cases hlt : k < ss.length
      · obtain ⟨g, off, rfl, hg, hc⟩ := (HS.out.below hb).at_ hlt
        have hl := Lib.hid (lright_any ss[k] wr (HZ.out _ (List.getElem_mem _)) (HT.out.on hb))
        cases hx : lineB ss[k] with
        | true =>
          have hall2 : Hid (∀ j (hj : j < ss.length), j < k + 1 → lineB ss[j] = true) := by
            intro j hj hjk
            by_cases h : j = k
            · subst h; exact hx
            · exact hall.out j hj (by omega)
          rw [hx] at hl
          generalize ss[k] = s at *
          clear hall hx
          go_wp2_with (go_at_call 168; refine hl.out.mono ?_; rintro e w1 ⟨rfl, hb1⟩)
          have hb2 := hb.trans (hb1.mono hb.size)
          go_roundw
          case rel => exact ⟨k + 1, by omega, by go_num, hall2, hb2⟩
          case measure => simp [intOf]; omega
        | false =>
          have hno : Hid (checkN ss = 6) := checkN_bad h2 hlt hx
          rw [hx] at hl
          generalize ss[k] = s at *
          clear hall hx
          go_wp2_with (go_at_call 168; refine hl.out.mono ?_; rintro e w1 ⟨rfl, hb1⟩)
          go_ret
          rw [hno.out]
          exact ⟨rfl, hb.trans (hb1.mono hb.size)⟩
      · have hk2 : k = ss.length := by omega
        subst hk2
        have hyes : Hid (checkN ss = 0) := checkN_ok h2 fun j hj => hall.out j hj hj
        clear hall
        go_wp2
        go_ret
        rw [hyes.out]
        exact ⟨rfl, hb⟩
end Go.Proofs.YtifkpelcdihdoaaGreatDoor
namespace Go.Proofs.YtifkpelcdihdoaaGreatDoor
open Go.RowKit
open Go.Sort
set_option linter.unusedVariables false

set_option maxHeartbeats 8000000 in
set_option maxRecDepth 100000 in
theorem opmoved_any (x : Om) (w : World) (ox : x.Ok w w.heap.size) (sx : x.Sz) (r : Bool) (hr : movedO x.key = r) :
    Calls Tryz.prog 149 #[.agg #[.int .i64 x.kind, .string x.self.p, .int .i64 x.self.n, .string x.parent.p, .int .i64 x.parent.n, .string x.dst.p, .int .i64 x.dst.n, .string x.name, .string x.dname, .string x.left.p, .int .i64 x.left.n, .string x.right.p, .int .i64 x.right.n, .slice x.a1 x.dels.length x.c1, .int .i64 x.first, .slice x.a2 x.lines.length x.c2]] w fun e w' => e = .returned (.bool r) ∧ Below w.heap.size w w' := by
  subst hr
  obtain ⟨hb, hx⟩ := op_box w x
  have HX := Lib.hid hx
  have HF := Lib.hid hb
  have OX := Lib.hid (ox.on hb)
  clear hb hx ox
  go_enter Tryz.func149, Tryz.ntmps149
  go_upto_region 1 with (fail)
  generalize (w.alloc (.cells #[.int .i64 x.kind, .string x.self.p, .int .i64 x.self.n, .string x.parent.p, .int .i64 x.parent.n, .string x.dst.p, .int .i64 x.dst.n, .string x.name, .string x.dname, .string x.left.p, .int .i64 x.left.n, .string x.right.p, .int .i64 x.right.n, .slice x.a1 x.dels.length x.c1, .int .i64 x.first, .slice x.a2 x.lines.length x.c2] 84)) = wb at *
  have HG : Hid (Below wb.heap.size wb wb) := Below.refl _ _
  have hc := op_cells HX.out
  have c_dstp := hc.dstp
  have c_dstn := hc.dstn
  have c_parentp := hc.parentp
  have c_parentn := hc.parentn
  have c_name := hc.name
  have c_dname := hc.dname
  clear hc
  by_cases h1 : x.dst = x.parent
  · have q1_0 : ∀ W, (binOp .neq 81 (.agg #[.string x.dst.p, .int .i64 x.dst.n]) (.agg #[.string x.parent.p, .int .i64 x.parent.n])).run Tryz.prog W = .ok (.bool false) W := fun W => by rw [neq_id, decide_eq_true h1]; rfl
    have HH1_0 : Hid (decide (x.key.dst = x.key.parent) = true) := decide_eq_true (by show x.dst.key = x.parent.key; rw [h1])
    clear h1
    by_cases h2 : x.dname = x.name
    · have q2_0 : (x.dname.toList == x.name.toList) = true := by rw [h2]; exact str_eqb _
      have HH2_0 : Hid (decide (x.key.dname = x.key.name) = true) := decide_eq_true (by show x.dname.data.toList = x.name.data.toList; rw [h2])
      clear h2
      have HV : Hid (movedO x.key = false) := by
        show _ = _
        simp [movedO, HH1_0.out, HH2_0.out]
      -- @L1
      go_wp2
      go_ret
      rw [HV.out]
      exact ⟨rfl, HF.out⟩
    · have q2_0 : (x.dname.toList == x.name.toList) = false := str_ne h2
      have HH2_0 : Hid (decide (x.key.dname = x.key.name) = false) := decide_eq_false fun e => h2 (bytes_inj e)
      clear h2
      obtain ⟨b3, hb3⟩ : ∃ b, placedO x.key.parent x.key.name = b := ⟨_, rfl⟩
      have HQ3 := Lib.hid hb3
      have hc := op_cells HX.out
      have c_parentp := hc.parentp
      have c_parentn := hc.parentn
      have c_name := hc.name
      have CQ := Lib.hid (fun W (hW : Below wb.heap.size wb W) => opplaced_any x.parent x.name W sx.parent sx.name b3 hb3)
      clear hc hb3
      go_wp2_with fail
      refine (CQ.out _ HG.out).mono ?_
      rintro e w3 ⟨rfl, hb⟩
      replace HX := Lib.hid (HX.out.on hb)
      replace HF := Lib.hid (HF.out.trans (hb.mono HF.out.size))
      replace HG := Lib.hid (HG.out.trans (hb.mono HG.out.size))
      clear hb CQ c_parentp c_parentn c_name
      cases b3
      · have HV : Hid (movedO x.key = false) := by
          show _ = _
          simp [movedO, HH1_0.out, HH2_0.out, HQ3.out]
        -- @L2
        go_wp2
        go_ret
        rw [HV.out]
        exact ⟨rfl, HF.out⟩
      · obtain ⟨b4, hb4⟩ : ∃ b, placedO x.key.dst x.key.dname = b := ⟨_, rfl⟩
        have HQ4 := Lib.hid hb4
        have hc := op_cells HX.out
        have c_dstp := hc.dstp
        have c_dstn := hc.dstn
        have c_dname := hc.dname
        have CQ := Lib.hid (fun W (hW : Below wb.heap.size wb W) => opplaced_any x.dst x.dname W sx.dst sx.dname b4 hb4)
        clear hc hb4
        go_wp2_with fail
        refine (CQ.out _ HG.out).mono ?_
        rintro e w4 ⟨rfl, hb⟩
        replace HX := Lib.hid (HX.out.on hb)
        replace HF := Lib.hid (HF.out.trans (hb.mono HF.out.size))
        replace HG := Lib.hid (HG.out.trans (hb.mono HG.out.size))
        clear hb CQ c_dstp c_dstn c_dname
        have HV : Hid (movedO x.key = b4) := by
          show _ = _
          simp [movedO, HH1_0.out, HH2_0.out, HQ3.out, HQ4.out]
        -- @L3
        go_wp2
        go_ret
        rw [HV.out]
        exact ⟨rfl, HF.out⟩
  · have q1_0 : ∀ W, (binOp .neq 81 (.agg #[.string x.dst.p, .int .i64 x.dst.n]) (.agg #[.string x.parent.p, .int .i64 x.parent.n])).run Tryz.prog W = .ok (.bool true) W := fun W => by rw [neq_id, decide_eq_false h1]; rfl
    have HH1_0 : Hid (decide (x.key.dst = x.key.parent) = false) := decide_eq_false fun e => h1 (Im.key_inj e)
    clear h1
    obtain ⟨b5, hb5⟩ : ∃ b, placedO x.key.parent x.key.name = b := ⟨_, rfl⟩
    have HQ5 := Lib.hid hb5
    have hc := op_cells HX.out
    have c_parentp := hc.parentp
    have c_parentn := hc.parentn
    have c_name := hc.name
    have CQ := Lib.hid (fun W (hW : Below wb.heap.size wb W) => opplaced_any x.parent x.name W sx.parent sx.name b5 hb5)
    clear hc hb5
    go_wp2_with fail
    refine (CQ.out _ HG.out).mono ?_
    rintro e w5 ⟨rfl, hb⟩
    replace HX := Lib.hid (HX.out.on hb)
    replace HF := Lib.hid (HF.out.trans (hb.mono HF.out.size))
    replace HG := Lib.hid (HG.out.trans (hb.mono HG.out.size))
    clear hb CQ c_parentp c_parentn c_name
    cases b5
    · have HV : Hid (movedO x.key = false) := by
        show _ = _
        simp [movedO, HH1_0.out, HQ5.out]
      -- @L4
      go_wp2
      go_ret
      rw [HV.out]
      exact ⟨rfl, HF.out⟩
    · obtain ⟨b6, hb6⟩ : ∃ b, placedO x.key.dst x.key.dname = b := ⟨_, rfl⟩
      have HQ6 := Lib.hid hb6
      have hc := op_cells HX.out
      have c_dstp := hc.dstp
      have c_dstn := hc.dstn
      have c_dname := hc.dname
      have CQ := Lib.hid (fun W (hW : Below wb.heap.size wb W) => opplaced_any x.dst x.dname W sx.dst sx.dname b6 hb6)
      clear hc hb6
      go_wp2_with fail
      refine (CQ.out _ HG.out).mono ?_
      rintro e w6 ⟨rfl, hb⟩
      replace HX := Lib.hid (HX.out.on hb)
      replace HF := Lib.hid (HF.out.trans (hb.mono HF.out.size))
      replace HG := Lib.hid (HG.out.trans (hb.mono HG.out.size))
      clear hb CQ c_dstp c_dstn c_dname
      have HV : Hid (movedO x.key = b6) := by
        show _ = _
        simp [movedO, HH1_0.out, HQ5.out, HQ6.out]
      -- @L5
      go_wp2
      go_ret
      rw [HV.out]
      exact ⟨rfl, HF.out⟩
theorem opcheckl_any (A : Option Addr) (l : List (List UInt8)) (c : Nat) (w : World) (hs : Strs w w.heap.size A (toBs l)) (hn : l.length ≤ 900000) (hz : ∀ x ∈ l, x.length ≤ 9223372036854775807) (hT : Tabs w) (r : Int) (hr : checkN (toBs l) = r) :
    Calls Tryz.prog 164 #[.slice A l.length c] w fun e w' => e = .returned (.int .i64 r) ∧ Below w.heap.size w w' := by
  have h := lcheck_any A (toBs l) c w hs (by rw [toBs_len]; omega) (fun s hs => by
    obtain ⟨y, hy, rfl⟩ := List.mem_map.1 hs
    rw [toB_size]
    exact hz y hy) hT
  rw [toBs_len, hr] at h
  exact h
set_option maxHeartbeats 8000000 in
set_option maxRecDepth 100000 in
theorem oplined_any (x : Om) (w : World) (ox : x.Ok w w.heap.size) (sx : x.Sz) (hT : Tabs w) (r : Bool) (hr : linedO x.key = r) :
    Calls Tryz.prog 151 #[.agg #[.int .i64 x.kind, .string x.self.p, .int .i64 x.self.n, .string x.parent.p, .int .i64 x.parent.n, .string x.dst.p, .int .i64 x.dst.n, .string x.name, .string x.dname, .string x.left.p, .int .i64 x.left.n, .string x.right.p, .int .i64 x.right.n, .slice x.a1 x.dels.length x.c1, .int .i64 x.first, .slice x.a2 x.lines.length x.c2]] w fun e w' => e = .returned (.bool r) ∧ Below w.heap.size w w' := by
  subst hr
  obtain ⟨hb, hx⟩ := op_box w x
  have HX := Lib.hid hx
  have HF := Lib.hid hb
  have OX := Lib.hid (ox.on hb)
  have HT := Lib.hid (Tabs.on hT hb)
  clear hT
  clear hb hx ox
  go_enter Tryz.func151, Tryz.ntmps151
  go_upto_region 1 with (fail)
  generalize (w.alloc (.cells #[.int .i64 x.kind, .string x.self.p, .int .i64 x.self.n, .string x.parent.p, .int .i64 x.parent.n, .string x.dst.p, .int .i64 x.dst.n, .string x.name, .string x.dname, .string x.left.p, .int .i64 x.left.n, .string x.right.p, .int .i64 x.right.n, .slice x.a1 x.dels.length x.c1, .int .i64 x.first, .slice x.a2 x.lines.length x.c2] 84)) = wb at *
  have HG : Hid (Below wb.heap.size wb wb) := Below.refl _ _
  by_cases h7 : x.dels.length = 0
  · have c_dels := (op_cells HX.out).dels
    rw [h7] at c_dels
    have HH7_0 : Hid (¬ 0 < x.key.dels.length) := fun e => absurd (show 0 < (ikeys x.dels).length from e) (by rw [ikeys_len]; omega)
    clear h7
    by_cases h8 : x.lines.length = 0
    · have c_lines := (op_cells HX.out).lines
      rw [h8] at c_lines
      have HH8_0 : Hid (¬ 0 < x.key.lines.length) := fun e => absurd (show 0 < x.lines.length from e) (by omega)
      clear h8
      have HV : Hid (linedO x.key = false) := by
        show _ = _
        simp [linedO, HH7_0.out, HH8_0.out]
      -- @L6
      go_wp2
      go_ret
      rw [HV.out]
      exact ⟨rfl, HF.out⟩
    · have c_lines := (op_cells HX.out).lines
      obtain ⟨nd8, hnd8⟩ : ∃ n, x.lines.length = n := ⟨_, rfl⟩
      have p8 : 0 < nd8 := by omega
      have p8i : (nd8 : Int) > 0 := by omega
      have p8j : (0 : Int) < (nd8 : Int) := by omega
      have HHx8 : Hid (0 < x.key.lines.length) := show 0 < x.lines.length by omega
      rw [hnd8] at c_lines
      clear hnd8
      have HH8_0 : Hid (0 < x.key.lines.length) := HHx8.out
      clear h8
      go_upto_region 2 with (fail)
      clear c_dels
      (first | clear c_lines | skip)
      have hc := op_cells HX.out
      have c_first := hc.first
      clear hc
      by_cases h9 : 0 ≤ x.first
      · have q9_0 : x.first ≥ 0 := h9
        have HH9_0 : Hid (0 ≤ x.key.first) := h9
        clear h9
        by_cases h10 : x.first ≤ 1048576
        · have q10_0 : x.first ≤ 1048576 := h10
          have HH10_0 : Hid (x.key.first ≤ 1048576) := h10
          clear h10
          obtain ⟨en, hen⟩ : ∃ en, checkN (toBs x.lines) = en := ⟨_, rfl⟩
          have HEN := Lib.hid hen
          have hc := op_cells HX.out
          have c_lines := hc.lines
          have CQ := Lib.hid (fun W (hW : Below wb.heap.size wb W) => opcheckl_any x.a2 x.lines x.c2 W (OX.out.on hW).lines sx.rows sx.lines (Tabs.on HT.out hW) en hen)
          clear hc hen
          go_wp2_with fail
          refine (CQ.out _ HG.out).mono ?_
          rintro e wz ⟨rfl, hb⟩
          replace HF := Lib.hid (HF.out.trans (hb.mono HF.out.size))
          clear hb CQ c_lines
          by_cases h11 : en = 0
          · have q11_0 : (en == 0) = true := by simpa using h11
            have HH11_0 : Hid (checkN (toBs x.key.lines) = 0) := HEN.out.trans h11
            clear h11
            have HV : Hid (linedO x.key = true) := by
              show _ = _
              simp [linedO, HH7_0.out, HH8_0.out, HH9_0.out, HH10_0.out, HH11_0.out]
            -- @L7
            go_wp2
            go_ret
            rw [HV.out]
            exact ⟨rfl, HF.out⟩
          · have q11_0 : (en == 0) = false := by simpa using h11
            have HH11_0 : Hid (checkN (toBs x.key.lines) ≠ 0) := fun e => h11 (HEN.out.symm.trans e)
            clear h11
            have HV : Hid (linedO x.key = false) := by
              show _ = _
              simp [linedO, HH7_0.out, HH8_0.out, HH9_0.out, HH10_0.out, HH11_0.out]
            -- @L8
            go_wp2
            go_ret
            rw [HV.out]
            exact ⟨rfl, HF.out⟩
        · have q10_0 : ¬ x.first ≤ 1048576 := h10
          have HH10_0 : Hid (¬ x.key.first ≤ 1048576) := h10
          clear h10
          have HV : Hid (linedO x.key = false) := by
            show _ = _
            simp [linedO, HH7_0.out, HH8_0.out, HH9_0.out, HH10_0.out]
          -- @L9
          go_wp2
          go_ret
          rw [HV.out]
          exact ⟨rfl, HF.out⟩
      · have q9_0 : ¬ x.first ≥ 0 := h9
        have HH9_0 : Hid (¬ 0 ≤ x.key.first) := h9
        clear h9
        have HV : Hid (linedO x.key = false) := by
          show _ = _
          simp [linedO, HH7_0.out, HH8_0.out, HH9_0.out]
        -- @L10
        go_wp2
        go_ret
        rw [HV.out]
        exact ⟨rfl, HF.out⟩
  · have c_dels := (op_cells HX.out).dels
    obtain ⟨nd7, hnd7⟩ : ∃ n, x.dels.length = n := ⟨_, rfl⟩
    have p7 : 0 < nd7 := by omega
    have p7i : (nd7 : Int) > 0 := by omega
    have p7j : (0 : Int) < (nd7 : Int) := by omega
    have HHx7 : Hid (0 < x.key.dels.length) := show 0 < (ikeys x.dels).length by rw [ikeys_len]; omega
    rw [hnd7] at c_dels
    clear hnd7
    have HH7_0 : Hid (0 < x.key.dels.length) := HHx7.out
    clear h7
    go_upto_region 2 with (fail)
    clear c_dels
    (first | clear c_lines | skip)
    have hc := op_cells HX.out
    have c_first := hc.first
    clear hc
    by_cases h12 : 0 ≤ x.first
    · have q12_0 : x.first ≥ 0 := h12
      have HH12_0 : Hid (0 ≤ x.key.first) := h12
      clear h12
      by_cases h13 : x.first ≤ 1048576
      · have q13_0 : x.first ≤ 1048576 := h13
        have HH13_0 : Hid (x.key.first ≤ 1048576) := h13
        clear h13
        obtain ⟨en, hen⟩ : ∃ en, checkN (toBs x.lines) = en := ⟨_, rfl⟩
        have HEN := Lib.hid hen
        have hc := op_cells HX.out
        have c_lines := hc.lines
        have CQ := Lib.hid (fun W (hW : Below wb.heap.size wb W) => opcheckl_any x.a2 x.lines x.c2 W (OX.out.on hW).lines sx.rows sx.lines (Tabs.on HT.out hW) en hen)
        clear hc hen
        go_wp2_with fail
        refine (CQ.out _ HG.out).mono ?_
        rintro e wz ⟨rfl, hb⟩
        replace HF := Lib.hid (HF.out.trans (hb.mono HF.out.size))
        clear hb CQ c_lines
        by_cases h14 : en = 0
        · have q14_0 : (en == 0) = true := by simpa using h14
          have HH14_0 : Hid (checkN (toBs x.key.lines) = 0) := HEN.out.trans h14
          clear h14
          have HV : Hid (linedO x.key = true) := by
            show _ = _
            simp [linedO, HH7_0.out, HH12_0.out, HH13_0.out, HH14_0.out]
          -- @L11
          go_wp2
          go_ret
          rw [HV.out]
          exact ⟨rfl, HF.out⟩
        · have q14_0 : (en == 0) = false := by simpa using h14
          have HH14_0 : Hid (checkN (toBs x.key.lines) ≠ 0) := fun e => h14 (HEN.out.symm.trans e)
          clear h14
          have HV : Hid (linedO x.key = false) := by
            show _ = _
            simp [linedO, HH7_0.out, HH12_0.out, HH13_0.out, HH14_0.out]
          -- @L12
          go_wp2
          go_ret
          rw [HV.out]
          exact ⟨rfl, HF.out⟩
      · have q13_0 : ¬ x.first ≤ 1048576 := h13
        have HH13_0 : Hid (¬ x.key.first ≤ 1048576) := h13
        clear h13
        have HV : Hid (linedO x.key = false) := by
          show _ = _
          simp [linedO, HH7_0.out, HH12_0.out, HH13_0.out]
        -- @L13
        go_wp2
        go_ret
        rw [HV.out]
        exact ⟨rfl, HF.out⟩
    · have q12_0 : ¬ x.first ≥ 0 := h12
      have HH12_0 : Hid (¬ 0 ≤ x.key.first) := h12
      clear h12
      have HV : Hid (linedO x.key = false) := by
        show _ = _
        simp [linedO, HH7_0.out, HH12_0.out]
      -- @L14
      go_wp2
      go_ret
      rw [HV.out]
      exact ⟨rfl, HF.out⟩
end Go.Proofs.YtifkpelcdihdoaaGreatDoor
namespace Go.Proofs.YtifkpelcdihdoaaGreatDoor
open Go.RowKit
set_option linter.unusedVariables false

namespace Rk
theorem put_size (c : Array Value) (off : Nat) (F : Array Value) : (Sort.putCells id off F c).size = c.size := by simp [Sort.putCells]
theorem enc_get {α : Type} (R : Rk α) (x : α) {r : Nat} (hr : r < R.k) : (R.enc x)[r]? = some (R.enc x)[r]! := by
  have h : r < (R.enc x).length := by rw [R.len]; exact hr
  rw [List.getElem?_eq_getElem h, getElem!_pos (R.enc x) r h]
variable {α : Type} [Inhabited α] (R : Rk α)
theorem flat_take (d : Array α) (cur : Array Value) (h : d.size * R.k ≤ cur.size) : (Sort.putCells id 0 (Sort.flatK R.enc R.k d) cur).toList.take (d.size * R.k) = R.cells d.toList := by
  refine List.ext_getElem? fun t => ?_
  by_cases ht : t < d.size * R.k
  · rw [List.getElem?_take, if_pos ht, Array.getElem?_toList]
    simp only [Sort.putCells, Array.getElem?_mapIdx]
    rw [Array.getElem?_eq_getElem (by omega), Option.map_some, if_pos ⟨Nat.zero_le _, by simpa using ht⟩, Nat.sub_zero, Sort.get_flatK _ _ _ _ ht]
    obtain ⟨j, r, hj, hr, rfl⟩ := R.at_place d.toList (by simpa using ht)
    rw [R.cells_get _ j hj r hr, Nat.add_comm, Nat.add_mul_mod_self_right, Nat.mod_eq_of_lt hr, Nat.add_mul_div_right _ _ R.pos, Nat.div_eq_of_lt hr, Nat.zero_add, getElem!_pos d j (by simpa using hj), Array.getElem_toList, R.enc_get _ hr]
    rfl
  · rw [List.getElem?_take, if_neg ht, List.getElem?_eq_none (by rw [R.cells_len]; simpa using ht)]
variable {R} {w : World} {g cap : Nat} {l : List α}
theorem Blk.holdsK (k : R.Blk w g cap l) : Sort.HoldsK R.enc R.k w g 0 l.toArray := by
  intro t ht
  rw [Sort.size_flatK] at ht
  refine ⟨?_, k.fz _⟩
  obtain ⟨j, r, hj, hr, rfl⟩ := R.at_place l (by simpa using ht)
  have hc := k.cell hj (R.enc_get _ hr)
  rw [Sort.get_flatK _ _ _ _ ht, Nat.zero_add, Nat.add_comm, Nat.add_mul_mod_self_right, Nat.mod_eq_of_lt hr, Nat.add_mul_div_right _ _ R.pos, Nat.div_eq_of_lt hr, Nat.zero_add, getElem!_pos l.toArray j (by simpa using hj), Nat.add_comm]
  rw [hc]
  simp
theorem sortWorld_block (w : World) (g n : Nat) (d : Array α) (os : Array Obj) {cur : Array Value} {t : TypeId} {fz : Nat × Nat} (h : w.heap[g]? = some (.cells cur t fz)) :
    (sortWorldK R.enc R.k w g 0 n d os).heap[g]? = some (.cells (Sort.putCells id 0 (Sort.flatK R.enc R.k d) cur) t fz) := by
  have hlt : g < w.heap.size := (Array.getElem?_eq_some_iff.1 h).1
  unfold sortWorldK Sort.grow Sort.putRowK Sort.putRow Sort.mapBlock Sort.ahead
  simp only
  rw [Array.getElem?_append_left (by simpa using hlt), Array.getElem?_modify, if_pos rfl, h]
  rfl
theorem sortWorld_grown (w : World) (g n : Nat) (d : Array α) (os : Array Obj) : w.grownBy (sortWorldK R.enc R.k w g 0 n d os) (some g) := by
  refine ⟨rfl, rfl, rfl, ?_, fun k hk hne => ?_⟩
  · unfold sortWorldK Sort.grow Sort.putRowK Sort.putRow Sort.mapBlock Sort.ahead
    simp
  · have h : g ≠ k := fun e => hne (by simp [e])
    unfold sortWorldK Sort.grow Sort.putRowK Sort.putRow Sort.mapBlock Sort.ahead
    simp only
    rw [Array.getElem?_append_left (by simpa using hk), Array.getElem?_modify, if_neg h]
theorem Blk.sorted (k : R.Blk w g cap l) (n : Nat) (d : Array α) (os : Array Obj) (hd : d.size = l.length) : R.Blk (sortWorldK R.enc R.k w g 0 n d os) g cap d.toList := by
  obtain ⟨cur, h1, h2, h3⟩ := k.h
  have hcap := k.len
  refine ⟨⟨_, sortWorld_block w g n d os h1, by rw [put_size]; exact h2, ?_⟩, by simpa [hd] using k.len, k.max⟩
  rw [Array.length_toList]
  exact R.flat_take d cur (by rw [h2, hd]; exact Nat.mul_le_mul_right _ hcap)
end Rk
end Go.Proofs.YtifkpelcdihdoaaGreatDoor
namespace Go.Proofs.YtifkpelcdihdoaaGreatDoor
open Go.RowKit
set_option linter.unusedVariables false

set_option maxHeartbeats 1000000 in
set_option maxRecDepth 100000 in
theorem or_w (b : Nat) (x y z : Int) (w : World) (h0 : w.cell? ⟨b, 0, none⟩ = some (.int .i64 x)) (h1 : w.cell? ⟨b, 1, none⟩ = some (.int .i64 y)) (hz : z = if x = 0 then y else x) :
    Calls Tryz.prog 166 #[.slice (some ⟨b, 0, none⟩) 2 2] w fun e w' => e = .returned (.int .i64 z) ∧ w = w' := by
  go_enter Tryz.func166, Tryz.ntmps166
  go_wp2
  go_loopw [8] (fun i wr => ∃ k : Nat, k ≤ 2 ∧ i = .int .i64 (k : Int) ∧ Hid ((1 ≤ k → x = 0) ∧ (2 ≤ k → y = 0)) ∧ wr = w) (fun i _ => 2 - (intOf i).toNat)
  case atStart => exact ⟨0, by omega, rfl, ⟨fun h => by omega, fun h => by omega⟩, rfl⟩
  case round =>
    obtain ⟨k, hk, rfl, hxy, rfl⟩ := hrel
    have hk3 : k = 0 ∨ k = 1 ∨ k = 2 := by omega
    rcases hk3 with rfl | rfl | rfl
    · by_cases hx : x = 0
      · subst hx
        clear hz h1 hxy
        go_wp2
        go_roundw
        case rel => exact ⟨1, by omega, by go_num, ⟨fun _ => by first | rfl | trivial, fun h => by omega⟩, by first | rfl | trivial⟩
        case measure => simp [intOf] <;> omega
      · have e : z = x := by rw [hz, if_neg hx]
        subst e
        have hb : (z == 0) = false := by simpa using hx
        have hb2 : (z != 0) = true := by simpa using hx
        clear hz h1 hxy
        go_wp2
        go_ret
        exact ⟨rfl, rfl⟩
    · have hx := hxy.out.1 (by omega)
      have e : z = y := by rw [hz, if_pos hx]
      subst e
      by_cases hy : z = 0
      · subst hy
        clear hz h0 hxy
        go_wp2
        go_roundw
        case rel => exact ⟨2, by omega, by go_num, ⟨fun _ => hx, fun h => by first | rfl | trivial⟩, by first | rfl | trivial⟩
        case measure => simp [intOf] <;> omega
      · have hb : (z == 0) = false := by simpa using hy
        have hb2 : (z != 0) = true := by simpa using hy
        clear hz h0 hxy
        go_wp2
        go_ret
        exact ⟨rfl, rfl⟩
    · have hx := hxy.out.1 (by omega)
      have hy := hxy.out.2 (by omega)
      have e : z = 0 := by rw [hz, if_pos hx, hy]
      subst e
      clear hz h0 h1 hxy
      go_wp2
      go_ret
      exact ⟨rfl, rfl⟩

end Go.Proofs.YtifkpelcdihdoaaGreatDoor
namespace Go.Proofs.YtifkpelcdihdoaaGreatDoor
open Go.RowKit
set_option linter.unusedVariables false

theorem strcompare_w (s t : ByteArray) (c : Int) (hc : Lib.compareBytes s.data.toList t.data.toList = c) (w : World) :
    Calls Tryz.prog 37 #[.string s, .string t] w fun e w' => e = .returned (.int .i64 c) ∧ w = w' := by
  have h := Tryz.strings_Compare s t w
  rw [hc] at h
  exact h.mono fun e w' ⟨he, hw⟩ => ⟨he, hw.symm⟩
def cmpZ (a b : Int) : Int := if a < b then -1 else if a = b then 0 else 1
theorem nan_int (a : Int) (w : World) : Calls Tryz.prog 80 #[.int .i64 a] w fun e w' => e = .returned (.bool false) ∧ w = w' := by
  have h1 : (a == a) = true := by simp
  go_enter Tryz.func80, Tryz.ntmps80
  go_wp2
  go_ret
  exact ⟨rfl, rfl⟩
set_option maxHeartbeats 1000000 in
set_option maxRecDepth 100000 in
theorem cmpint_any (a b : Int) (c : Int) (hc : cmpZ a b = c) (w : World) :
    Calls Tryz.prog 88 #[.int .i64 a, .int .i64 b] w fun e w' => e = .returned (.int .i64 c) ∧ w = w' := by
  have HN := Lib.hid (fun a w => nan_int a w)
  rcases Int.lt_trichotomy a b with h | h | h
  · have e : c = -1 := by rw [← hc]; unfold cmpZ; rw [if_pos h]
    subst e
    clear hc
    go_enter Tryz.func88, Tryz.ntmps88
    go_wp2_with fail
    refine (HN.out _ _).mono ?_
    rintro e w1 ⟨rfl, rfl⟩
    go_wp2_with fail
    refine (HN.out _ _).mono ?_
    rintro e w1 ⟨rfl, rfl⟩
    go_wp2
    go_ret
    exact ⟨rfl, rfl⟩
  · subst h
    have e : c = 0 := by rw [← hc]; unfold cmpZ; rw [if_neg (by omega), if_pos rfl]
    subst e
    have h1 : ¬ a < a := by omega
    have h2 : ¬ a > a := by omega
    clear hc
    go_enter Tryz.func88, Tryz.ntmps88
    go_wp2_with fail
    refine (HN.out _ _).mono ?_
    rintro e w1 ⟨rfl, rfl⟩
    go_wp2_with fail
    refine (HN.out _ _).mono ?_
    rintro e w1 ⟨rfl, rfl⟩
    go_wp2
    go_ret
    exact ⟨rfl, rfl⟩
  · have e : c = 1 := by rw [← hc]; unfold cmpZ; rw [if_neg (by omega), if_neg (by omega)]
    subst e
    have h1 : ¬ a < b := by omega
    have h2 : a > b := h
    clear hc
    go_enter Tryz.func88, Tryz.ntmps88
    go_wp2_with fail
    refine (HN.out _ _).mono ?_
    rintro e w1 ⟨rfl, rfl⟩
    go_wp2_with fail
    refine (HN.out _ _).mono ?_
    rintro e w1 ⟨rfl, rfl⟩
    go_wp2
    go_ret
    exact ⟨rfl, rfl⟩
theorem cmpbytes_lt : ∀ (a b : List UInt8), Lib.compareBytes a b < 0 ↔ a < b
  | [], [] => by simp [Lib.compareBytes]
  | [], _ :: _ => by simp [Lib.compareBytes]
  | _ :: _, [] => by simp [Lib.compareBytes]
  | a :: l, b :: m => by
    have ih := cmpbytes_lt l m
    unfold Lib.compareBytes
    rw [List.cons_lt_cons_iff]
    by_cases h : a < b
    · simp [h]
    · by_cases k : b < a
      · have : a ≠ b := by rintro rfl; exact h k
        simp [h, k, this]
      · have : a = b := UInt8.le_antisymm (UInt8.not_lt.1 k) (UInt8.not_lt.1 h)
        simp [this, ih]
theorem cmpbytes_eq : ∀ (a b : List UInt8), Lib.compareBytes a b = 0 ↔ a = b
  | [], [] => by simp [Lib.compareBytes]
  | [], _ :: _ => by simp [Lib.compareBytes]
  | _ :: _, [] => by simp [Lib.compareBytes]
  | a :: l, b :: m => by
    have ih := cmpbytes_eq l m
    unfold Lib.compareBytes
    rw [List.cons.injEq]
    by_cases h : a < b
    · have : a ≠ b := by rintro rfl; exact UInt8.lt_irrefl _ h
      simp [h, this]
    · by_cases k : b < a
      · have : a ≠ b := by rintro rfl; exact h k
        simp [h, k, this]
      · have : a = b := UInt8.le_antisymm (UInt8.not_lt.1 k) (UInt8.not_lt.1 h)
        simp [this, ih]
/-- What order tells. -/
def ordI (x y : Im) : Int := if Lib.compareBytes x.p.data.toList y.p.data.toList = 0 then cmpZ x.n y.n else Lib.compareBytes x.p.data.toList y.p.data.toList
theorem cmpZ_lt (a b : Int) : cmpZ a b < 0 ↔ a < b := by
  unfold cmpZ
  split
  · simp [*]
  · split <;> simp <;> omega
theorem ordI_lt (x y : Im) : ordI x y < 0 ↔ ltI x.key y.key := by
  unfold ordI ltI Im.key
  by_cases h : Lib.compareBytes x.p.data.toList y.p.data.toList = 0
  · rw [if_pos h, cmpZ_lt]
    have e := (cmpbytes_eq _ _).1 h
    exact ⟨fun k => .inr ⟨e, k⟩, fun k => k.elim (fun k => absurd (e ▸ k) (t_irrefl _)) fun k => k.2⟩
  · rw [if_neg h, cmpbytes_lt]
    have e := fun k => h ((cmpbytes_eq _ _).2 k)
    exact ⟨.inl, fun k => k.elim id fun k => absurd k.1 e⟩
set_option maxHeartbeats 4000000 in
set_option maxRecDepth 100000 in
theorem order_any (x y : Im) (w : World) :
    Calls Tryz.prog 153 #[x.val, y.val] w fun e w' => e = .returned (.int .i64 (ordI x y)) ∧ Bd w w' := by
  obtain ⟨hb, hx, hy⟩ := id_box2 w x y
  have hd : Bd w ((w.alloc (.cells #[.string x.p, .int .i64 x.n] 81)).alloc (.cells #[.string y.p, .int .i64 y.n] 81)) := ((Bd.refl w).alloc _).alloc _
  unfold Im.val
  have HD := Lib.hid hd
  have HX := Lib.hid hx
  have HY := Lib.hid hy
  obtain ⟨c, hc⟩ : ∃ c, Lib.compareBytes x.p.data.toList y.p.data.toList = c := ⟨_, rfl⟩
  obtain ⟨d, hdd⟩ : ∃ d, cmpZ x.n y.n = d := ⟨_, rfl⟩
  have CS := Lib.hid (fun W => strcompare_w x.p y.p c hc W)
  have CI := Lib.hid (fun W => cmpint_any x.n y.n d hdd W)
  have hz : ordI x y = if c = 0 then d else c := by unfold ordI; rw [hc, hdd]
  have HZ := Lib.hid hz
  clear hb hx hy hd hc hdd hz
  generalize ordI x y = z at *
  go_enter Tryz.func153, Tryz.ntmps153
  go_wp2_with fail
  generalize ((w.alloc (.cells #[.string x.p, .int .i64 x.n] 81)).alloc (.cells #[.string y.p, .int .i64 y.n] 81)) = wb at *
  generalize hg : w.heap.size = g at HX HY
  have x0 := id_c0 HX.out
  have x1 := id_c1 HX.out
  have y0 := id_c0 HY.out
  have y1 := id_c1 HY.out
  have CO := Lib.hid (fun (W : World) => or_w W.heap.size c d z (W.alloc (.cells #[.int .i64 c, .int .i64 d] 3)).drew (by show (W.alloc _).cell? _ = _; rw [World.cell?_alloc_new]; rfl) (by show (W.alloc _).cell? _ = _; rw [World.cell?_alloc_new]; rfl) HZ.out)
  go_region_held3 (fun w' => w'.cell? ⟨g, 0, none⟩ = some (.string x.p) ∧ w'.cell? ⟨g, 1, none⟩ = some (.int .i64 x.n) ∧ w'.cell? ⟨g + 1, 0, none⟩ = some (.string y.p) ∧ w'.cell? ⟨g + 1, 1, none⟩ = some (.int .i64 y.n)) (first | exact ⟨x0, x1, y0, y1⟩ | (go_keep; done)) (first
    | (go_at_call 37; refine (CS.out _).mono ?_; rintro e w7 ⟨rfl, rfl⟩)
    | (go_at_call 88; refine (CI.out _).mono ?_; rintro e w7 ⟨rfl, rfl⟩)
    | (go_at_call 166; refine (CO.out _).mono ?_; rintro e w7 ⟨rfl, rfl⟩))
  all_goals
    go_wp2
    go_ret
    exact ⟨rfl, (HD.out.alloc _).drew⟩
end Go.Proofs.YtifkpelcdihdoaaGreatDoor
