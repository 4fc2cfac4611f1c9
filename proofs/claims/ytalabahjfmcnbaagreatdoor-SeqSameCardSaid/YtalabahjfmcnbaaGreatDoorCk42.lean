/- Package tree's holds, room. The library's Grow and Concat over rows of files. Package tree's byPath; the library's BinarySearchFunc over it. Package tree's with. -/
import Derived.BigQuiet
import Derived.Deep.QuietTactic
import Derived.Handy
import Derived.Lib.AppendZerosOnto
import Derived.Test.YtalabahjfmcnbaaGreatDoorCk40
import Derived.Test.YtalabahjfmcnbaaGreatDoorCk41
namespace Go.Proofs.YtalabahjfmcnbaaGreatDoor
open Go.RowKit
set_option linter.unusedVariables false

def foundF (fs : List Fm) (p : ByteArray) : Option Fm := fs.find? fun f => decide (f.p = p)
def FoundLeft (fs : List Fm) (p : ByteArray) (w : World) (e : Ending) (w' : World) : Prop :=
  ∃ f : Fm, e = .returned (.tuple #[.agg #[.string f.p, .bool f.d, .slice f.a f.ls.length f.c], .bool (foundF fs p).isSome]) ∧ Hid (f = (foundF fs p).getD Fm.zero) ∧ Below w.heap.size w w'
theorem look_c (A : Option Addr) (fs : List Fm) (cap : Nat) (p : ByteArray) (w : World) (hs : Fs w w.heap.size A fs) (hn : fs.length ≤ 1000000) :
    Calls Tryz.prog 87 #[.agg #[.slice A fs.length cap], .string p] w (FoundLeft fs p w) := by
  refine (look_any A fs cap p (findZ fs p) (findZ_cases fs p) w hs hn).mono ?_
  rintro e w' ⟨f, rfl, hf, hb⟩
  rcases findZ_cases fs p with ⟨k, hk, e1, e2, hno⟩ | ⟨e1, hno⟩
  · have h1 : foundF fs p = some fs[k] := find_at hk e2 hno
    refine ⟨f, by rw [h1, e1]; simp, ?_, hb⟩
    show f = _
    have h2 := hf.out.1 (by omega)
    rw [e1, Int.toNat_natCast, List.getElem?_eq_getElem hk, Option.some.injEq] at h2
    rw [h1, ← h2]
    rfl
  · have h1 : foundF fs p = none := find_none hno
    refine ⟨f, by rw [h1, e1]; simp, ?_, hb⟩
    show f = _
    rw [h1]
    exact hf.out.2 (by omega)
theorem dirAt_found (fs : List Fm) (p : ByteArray) : dirAt fs p = (decide (p = ⟨#[]⟩) || ((foundF fs p).getD Fm.zero).d) := by
  unfold dirAt foundF
  cases fs.find? fun f => decide (f.p = p) <;> rfl
theorem found_ok {w : World} {fs : List Fm} {p : ByteArray} {B : Nat} (h : ∀ f ∈ fs, f.Ok w B) : ((foundF fs p).getD Fm.zero).Ok w B := by
  unfold foundF
  cases hf : fs.find? fun f => decide (f.p = p) with
  | none => exact ⟨fun h => absurd h (by simp [Fm.zero, toBs]), fun _ => rfl, Nat.le_refl _⟩
  | some f => exact h f (List.mem_of_find?_eq_some hf)
def updir (p : ByteArray) : ByteArray := toB (dirP nameP p.data.toList)
set_option maxHeartbeats 2000000 in
set_option maxRecDepth 100000 in
theorem holds_any (A : Option Addr) (fs : List Fm) (cap : Nat) (p : ByteArray) (w : World) (hs : Fs w w.heap.size A fs) (hn : fs.length ≤ 1000000) (hp : p.size ≤ 100000) :
    Calls Tryz.prog 53 #[.agg #[.slice A fs.length cap], .string p] w fun e w' => e = .returned (.bool (dirAt fs (updir p))) ∧ Below w.heap.size w w' := by
  have hal : Below w.heap.size w (w.alloc (.cells #[.slice A fs.length cap] 43)) := (Below.refl _ _).alloc (Nat.le_refl _) _
  have HT := Lib.hid (TAt.new_ w A fs.length cap)
  have HS := Lib.hid (hs.on hal)
  have HA := Lib.hid hal
  have CD := Lib.hid (fun W => dir_c p W hp)
  obtain ⟨q, hq⟩ : ∃ q, updir p = q := ⟨_, rfl⟩
  have hq2 : toB (dirP nameP p.data.toList) = q := hq
  rw [hq2] at CD
  rw [hq, dirAt_found]
  have CL := Lib.hid (fun W hs => look_c A fs cap q W hs hn)
  obtain ⟨f0, hf0⟩ : ∃ f0, (foundF fs q).getD Fm.zero = f0 := ⟨_, rfl⟩
  have HF0 := Lib.hid hf0
  rw [hf0]
  clear hal hs hq hq2 hf0
  go_enter Tryz.func53, Tryz.ntmps53
  go_wp2_with fail
  refine (CD.out _).mono ?_
  rintro e w1 ⟨rfl, hb1⟩
  have t0 := (HT.out.on hb1).c0
  have C2 := Lib.hid (CL.out w1 (HS.out.on hb1))
  have HB1 := Lib.hid (HA.out.trans (hb1.mono HA.out.size))
  clear hb1 CL CD
  go_wp2_with fail
  refine C2.out.mono ?_
  rintro e w2 ⟨f, rfl, hf, hb2⟩
  have hff : f0 = f := by rw [hf.out, HF0.out]
  subst hff
  have HB2 := Lib.hid (HB1.out.trans (hb2.mono HB1.out.size))
  have HB3 := Lib.hid (HB2.out.alloc HB2.out.size (.cells #[.string f0.p, .bool f0.d, .slice f0.a f0.ls.length f0.c] 62))
  generalize (foundF fs q).isSome = b at *
  clear hb2 hf C2 t0 HF0
  by_cases h0 : q = ⟨#[]⟩
  · subst h0
    go_wp2
    go_ret
    exact ⟨by simp, HB3.out⟩
  · have hq : (q.toList == []) = false := str_ne_empty h0
    have hd : decide (q = ⟨#[]⟩) = false := decide_eq_false h0
    have HD := Lib.hid hd
    clear hd h0
    go_wp2
    go_ret
    rw [HD.out, Bool.false_or]
    exact ⟨rfl, HB3.out⟩
set_option maxHeartbeats 2000000 in
set_option maxRecDepth 100000 in
theorem room_any (A : Option Addr) (fs : List Fm) (cap : Nat) (p : ByteArray) (w : World) (hs : Fs w w.heap.size A fs) (hn : fs.length < 500) (hp : p.size ≤ 100000) (r : Int) (hr : (if dirAt fs (updir p) = false then (9 : Int) else 0) = r) :
    Calls Tryz.prog 92 #[.agg #[.slice A fs.length cap], .string p] w fun e w' => e = .returned (.int .i64 r) ∧ Below w.heap.size w w' := by
  have hal : Below w.heap.size w (w.alloc (.cells #[.slice A fs.length cap] 43)) := (Below.refl _ _).alloc (Nat.le_refl _) _
  have C := holds_any A fs cap p _ (hs.on hal) (by omega) hp
  have HT := Lib.hid (TAt.new_ w A fs.length cap)
  have HA := Lib.hid hal
  clear hal hs
  cases hb : dirAt fs (updir p) with
  | false =>
    rw [hb, if_pos rfl] at hr
    subst hr
    rw [hb] at C
    have CC := Lib.hid C
    clear C hb
    go_enter Tryz.func92, Tryz.ntmps92
    go_wp2_with fail
    refine CC.out.mono ?_
    rintro e w1 ⟨rfl, hb1⟩
    have HB := Lib.hid (HA.out.trans (hb1.mono HA.out.size))
    clear hb1
    go_wp2
    go_ret
    exact ⟨rfl, HB.out⟩
  | true =>
    rw [hb, if_neg (by simp)] at hr
    subst hr
    rw [hb] at C
    have CC := Lib.hid C
    have hge : ¬ (500 : Int) ≤ (fs.length : Int) := by omega
    have hge2 : decide ((fs.length : Int) ≥ 500) = false := decide_eq_false hge
    clear C hb
    go_enter Tryz.func92, Tryz.ntmps92
    go_wp2_with fail
    refine CC.out.mono ?_
    rintro e w1 ⟨rfl, hb1⟩
    have t0 := (HT.out.on hb1).c0
    have HB := Lib.hid (HA.out.trans (hb1.mono HA.out.size))
    clear hb1
    go_wp2
    go_ret
    exact ⟨rfl, HB.out⟩
end Go.Proofs.YtalabahjfmcnbaaGreatDoor
namespace Go.Proofs.YtalabahjfmcnbaaGreatDoor
open Go.RowKit
set_option linter.unusedVariables false

set_option maxHeartbeats 1000000 in
set_option maxRecDepth 100000 in
theorem grow_none (n : Nat) (hn : 0 < n) (hn2 : n ≤ 1000000) (w : World) :
    Calls Tryz.prog 159 #[.slice none 0 0, .int .i64 (n : Int)] w fun e w' => ∃ A cap, e = .returned (.slice A 0 cap) ∧ OwnF w' w.heap.size (.slice A 0 cap) [] ∧ Below w.heap.size w w' := by
  obtain ⟨i0, hi, hz0, hz1, hz2⟩ := info_parts info_file
  have h1 : ¬ ((n : Int) < 0) := by omega
  have h4 : (n : Int) > 0 := by omega
  have h := Lib.run_append_grow_zeros (P := Tryz.prog) w 38 3 38 62 i0 _ .i64 .i64 Tryz.underlying38 Tryz.underlying3 hi hz0 none 0 0 [] (run_firstCells_none w.drew i0.size 0 0 0) n hn (by rw [hz1]; decide) (by omega) (by omega) (by rw [hz2]; omega) (growslice_fits (by omega) (by rw [hz2]; omega))
  have hG := grownCap_ge w (0 + n) 0 62
  have hM := grownCap_le_maxLen w (0 + n) 0 62 (by unfold maxLen; omega)
  generalize grownCap w (0 + n) 0 62 = G at *
  rw [Nat.zero_add] at h hG
  have hcs : (Builtin.zeroCells (Value.agg #[.string ByteArray.empty, .bool false, .slice none 0 0]).cells n ++ Builtin.zeroCells (Value.agg #[.string ByteArray.empty, .bool false, .slice none 0 0]).cells (G - n)).size = G * 3 := by
    simp [Builtin.zeroCells, Value.cells]
    omega
  have hfin : Hid (OwnF (w.drew.alloc (.cells (([] : List Value).toArray ++ Builtin.zeroCells (Value.agg #[.string ByteArray.empty, .bool false, .slice none 0 0]).cells n ++ Builtin.zeroCells (Value.agg #[.string ByteArray.empty, .bool false, .slice none 0 0]).cells (G - n)) 62)) w.heap.size (.slice (some ⟨w.heap.size, 0, none⟩) 0 G) [] ∧
      Below w.heap.size w (w.drew.alloc (.cells (([] : List Value).toArray ++ Builtin.zeroCells (Value.agg #[.string ByteArray.empty, .bool false, .slice none 0 0]).cells n ++ Builtin.zeroCells (Value.agg #[.string ByteArray.empty, .bool false, .slice none 0 0]).cells (G - n)) 62))) :=
    ⟨w.drew.ownsRow_made _ G (Nat.le_refl _) hM (by simpa using hcs), (Below.refl _ w).drew.alloc (Nat.le_refl _) _⟩
  generalize (([] : List Value).toArray ++ Builtin.zeroCells (Value.agg #[.string ByteArray.empty, .bool false, .slice none 0 0]).cells n ++ Builtin.zeroCells (Value.agg #[.string ByteArray.empty, .bool false, .slice none 0 0]).cells (G - n)) = cs at *
  have hz0 : (0 : Int) ≤ (n : Int) := by omega
  have hg1 : (n : Int) ≤ (G : Int) := by omega
  have hg2 : G ≤ 9223372036854775807 := by unfold maxLen at hM; omega
  clear hi hz1 hz2 hcs hM
  go_enter Tryz.func159, Tryz.ntmps159
  go_wp2_with (at_builtin; refine Lib.wpList_append_run _ rfl _ _ _ _ rfl _ _ rfl rfl _ _ h ?_)
  go_wp2
  go_ret
  exact ⟨_, _, rfl, hfin.out.1, hfin.out.2⟩
/-- A row of files, as one of the rows that are joined. -/
structure Rw where
  a : Option Addr
  c : Nat
  fs : List Fm
def allRw (rows : List Rw) : List Fm := rows.flatMap Rw.fs
theorem allRw_take (rows : List Rw) (k : Nat) (h : k < rows.length) : allRw (rows.take (k + 1)) = allRw (rows.take k) ++ rows[k].fs := by
  unfold allRw
  rw [List.take_succ_eq_append_getElem h, List.flatMap_append]
  simp
theorem allRw_len (rows : List Rw) (k : Nat) : (allRw (rows.take k)).length ≤ (allRw rows).length := by
  unfold allRw
  have e := congrArg (fun l => (List.flatMap Rw.fs l).length) (List.take_append_drop k rows)
  simp only [List.flatMap_append, List.length_append] at e
  omega
set_option maxHeartbeats 2000000 in
set_option maxRecDepth 100000 in
theorem concat_any (q rc : Nat) (rows : List Rw) (w : World) (hq : q < w.heap.size) (hc : ∀ j (h : j < rows.length), w.cell? ⟨q, j, none⟩ = some (.slice rows[j].a (List.length (α := Fm) rows[j].fs) rows[j].c)) (hr : ∀ r ∈ rows, FCells w r.a r.fs ∧ Room r.a r.fs.length r.c) (hn : rows.length ≤ 100) (hl : (allRw rows).length ≤ 100000) (h0 : 0 < (allRw rows).length) :
    Calls Tryz.prog 135 #[.slice (some ⟨q, 0, none⟩) rows.length rc] w (RowF w (allRw rows)) := by
  have HC := Lib.hid hc
  have HR := Lib.hid hr
  clear hc hr
  go_enter Tryz.func135, Tryz.ntmps135
  go_wp2_with fail
  go_loopw [3, 11] (fun s3 s11 wr => ∃ (k m : Nat), k ≤ rows.length ∧ s3 = .int .i64 (m : Int) ∧ s11 = .int .i64 (k : Int) ∧ Hid (m = (allRw (rows.take k)).length) ∧ wr = w) (fun _ s11 _ => rows.length - (intOf s11).toNat)
  case atStart => exact ⟨0, 0, Nat.zero_le _, rfl, rfl, rfl, rfl⟩
  case round =>
    obtain ⟨k, m, hk, rfl, rfl, HM, hw0⟩ := hrel
    replace hw0 := hw0.symm
    subst hw0
    by_cases hlt : k < rows.length
    · have c0 := HC.out k hlt
      have hm2 : m + rows[k].fs.length ≤ 100000 := by
        have h1 := allRw_take rows k hlt
        have h2 := allRw_len rows (k + 1)
        have h3 := congrArg List.length h1
        rw [List.length_append] at h3
        have := HM.out
        omega
      have HM2 : Hid (m + rows[k].fs.length = (allRw (rows.take (k + 1))).length) := by
        show _ = _
        rw [allRw_take rows k hlt, List.length_append, HM.out]
      have hw : IntKind.i64.wrap ((m : Int) + (rows[k].fs.length : Int)) = (m : Int) + (rows[k].fs.length : Int) := IntWalk.i64_in _ (by omega)
      have hs : ¬ (m : Int) + (rows[k].fs.length : Int) < 0 := by omega
      generalize rows[k].fs.length = n2 at *
      generalize rows[k].a = a2 at *
      generalize rows[k].c = c2 at *
      go_wp2
      go_roundw
      case rel => exact ⟨k + 1, m + n2, by omega, by go_num, by go_num, HM2.out, True.intro⟩
      case measure => simp [intOf]; omega
    · have hke : k = rows.length := by omega
      subst hke
      have hm : Hid (m = (allRw rows).length) := by show _ = _; rw [HM.out, List.take_length]
      have hmp : 0 < m := by rw [hm.out]; exact h0
      have hml : m ≤ 1000000 := by have := hm.out; omega
      have CG := Lib.hid (grow_none m hmp hml w)
      clear hmp hml HM
      go_wp2_with fail
      refine CG.out.mono ?_
      rintro e w1 ⟨A1, c1, rfl, ho1, hb1⟩
      have HO1 := Lib.hid ho1
      have HB1 := Lib.hid hb1
      clear ho1 hb1 CG
      go_wp2
      go_loopw [6, 27] (fun s6 s27 wr => ∃ (k : Nat) (A : Option Addr) (n c : Nat), k ≤ rows.length ∧ s6 = .slice A n c ∧ s27 = .int .i64 (k : Int) ∧ Hid (OwnF wr w.heap.size (.slice A n c) (allRw (rows.take k)) ∧ Below w.heap.size w wr)) (fun _ s27 _ => rows.length - (intOf s27).toNat)
      case atStart => exact ⟨0, A1, 0, c1, Nat.zero_le _, rfl, rfl, HO1.out, HB1.out⟩
      case round =>
        obtain ⟨k, A, n, c, hk, rfl, rfl, HI⟩ := hrel
        by_cases hlt : k < rows.length
        · have c0 := (HI.out.2.cell (p := ⟨q, k, none⟩) hq).trans (HC.out k hlt)
          have hrr := HR.out _ (List.getElem_mem hlt)
          have hfc := Lib.hid (hrr.1.on HI.out.2)
          have hroom := Lib.hid hrr.2
          have hle : (allRw (rows.take k)).length + (rows[k]'hlt).fs.length ≤ 1000000 := by
            have h1 := allRw_take rows k hlt
            have h2 := allRw_len rows (k + 1)
            have h3 := congrArg List.length h1
            rw [List.length_append] at h3
            omega
          have HL := Lib.hid hle
          have HT := Lib.hid (allRw_take rows k hlt)
          obtain ⟨n2, hn2⟩ : ∃ n2, n2 = (rows[k]'hlt).fs.length := ⟨_, rfl⟩
          rw [← hn2] at c0
          have HN2 := Lib.hid hn2
          obtain ⟨n3, hn3⟩ : ∃ n3, n3 = (allRw (rows.take k)).length + (rows[k]'hlt).fs.length := ⟨_, rfl⟩
          have HN3 := Lib.hid hn3
          clear hrr hle hn2 hn3
          generalize rows[k] = r at *
          go_wp2_with (at_builtin; refine wpList_append_frow rfl _ _ rfl w.heap.size (.slice A n c) (allRw (rows.take k)) r.fs rfl HI.out.1 r.a r.c n2 rfl HN2.out hroom.out.1 hfc.out HI.out.2.size HL.out n3 HN3.out ?_)
          intro A2 c2 w2 ho2 hg2
          have HB2 := Lib.hid (below_appendf HI.out.2 HI.out.1 hg2 (Nat.le_refl _))
          have HO2 : Hid (OwnF w2 w.heap.size (.slice A2 n3 c2) (allRw (rows.take (k + 1)))) := by show OwnF _ _ _ _; rw [HT.out]; exact ho2
          clear ho2 hg2
          go_wp2
          go_roundw
          case rel => exact ⟨k + 1, A2, n3, c2, by omega, rfl, by go_num, HO2.out, HB2.out⟩
          case measure => simp [intOf]; omega
        · have hke : k = rows.length := by omega
          subst hke
          have hfin : Hid (OwnF wr w.heap.size (.slice A n c) (allRw rows) ∧ Below w.heap.size w wr) := by
            have h := HI.out
            rw [List.take_length] at h
            exact h
          go_wp2
          go_ret
          exact ⟨_, rfl, hfin.out.1, hfin.out.2⟩
end Go.Proofs.YtalabahjfmcnbaaGreatDoor
namespace Go.Proofs.YtalabahjfmcnbaaGreatDoor
open Go.RowKit
set_option linter.unusedVariables false

def cmpP (p q : ByteArray) : Int := if p = q then 0 else if lessP nameP p.data.toList q.data.toList = true then -1 else 1
set_option maxHeartbeats 2000000 in
set_option maxRecDepth 100000 in
theorem bypath_any (p q : ByteArray) (d d2 : Bool) (a a2 : Option Addr) (n n2 c c2 : Nat) (w : World) (hp : p.size ≤ 100000) (hq : q.size ≤ 100000) (r : Int) (hr : cmpP p q = r) :
    Calls Tryz.prog 33 #[.agg #[.string p, .bool d, .slice a n c], .agg #[.string q, .bool d2, .slice a2 n2 c2]] w fun e w' => e = .returned (.int .i64 r) ∧ Below w.heap.size w w' := by
  have hal : Below w.heap.size w ((w.alloc (.cells #[.string p, .bool d, .slice a n c] 62)).alloc (.cells #[.string q, .bool d2, .slice a2 n2 c2] 62)) := ((Below.refl _ _).alloc (Nat.le_refl _) _).alloc (by simp) _
  have HA := Lib.hid hal
  have C := Lib.hid (less_c p q ((w.alloc (.cells #[.string p, .bool d, .slice a n c] 62)).alloc (.cells #[.string q, .bool d2, .slice a2 n2 c2] 62)) hp hq)
  unfold cmpP at hr
  clear hal
  by_cases h0 : p = q
  · rw [if_pos h0] at hr
    subst hr
    have hs : (p.toList == q.toList) = true := by rw [str_beq]; exact decide_eq_true h0
    clear h0 C
    go_enter Tryz.func33, Tryz.ntmps33
    go_wp2
    go_ret
    exact ⟨rfl, HA.out⟩
  · rw [if_neg h0] at hr
    have hs : (p.toList == q.toList) = false := str_ne h0
    cases hl : lessP nameP p.data.toList q.data.toList with
    | true =>
      rw [hl, if_pos rfl] at hr
      subst hr
      rw [hl] at C
      clear h0 hl
      go_enter Tryz.func33, Tryz.ntmps33
      go_wp2_with fail
      refine C.out.mono ?_
      rintro e w1 ⟨rfl, hb1⟩
      have HB := Lib.hid (HA.out.trans (hb1.mono HA.out.size))
      clear hb1
      go_wp2
      go_ret
      exact ⟨rfl, HB.out⟩
    | false =>
      rw [hl, if_neg (by simp)] at hr
      subst hr
      rw [hl] at C
      clear h0 hl
      go_enter Tryz.func33, Tryz.ntmps33
      go_wp2_with fail
      refine C.out.mono ?_
      rintro e w1 ⟨rfl, hb1⟩
      have HB := Lib.hid (HA.out.trans (hb1.mono HA.out.size))
      clear hb1
      go_wp2
      go_ret
      exact ⟨rfl, HB.out⟩
theorem cmpP_less {p q : ByteArray} (h : lessP nameP p.data.toList q.data.toList = true) : cmpP p q = -1 := by
  have hne : p ≠ q := fun e => by rw [e, lessP_irrefl] at h; cases h
  unfold cmpP
  rw [if_neg hne, if_pos h]
theorem cmpP_more {p q : ByteArray} (h : lessP nameP q.data.toList p.data.toList = true) : cmpP p q = 1 := by
  have hne : p ≠ q := fun e => by rw [e, lessP_irrefl] at h; cases h
  have h2 : ¬ lessP nameP p.data.toList q.data.toList = true := fun h2 => lessP_asymm nameP _ _ ⟨h, h2⟩
  unfold cmpP
  rw [if_neg hne, if_neg h2]
set_option maxHeartbeats 4000000 in
set_option maxRecDepth 100000 in
theorem bsearch_any (A : Option Addr) (fs : List Fm) (cap : Nat) (t : Fm) (i : Nat) (hi : i ≤ fs.length) (h1 : ∀ j (hj : j < fs.length), j < i → lessF fs[j] t = true) (h2 : ∀ j (hj : j < fs.length), i ≤ j → lessF t fs[j] = true) (w : World) (hs : Fs w w.heap.size A fs) (hn : fs.length ≤ 1000000) (hz : ∀ f ∈ fs, f.p.size ≤ 100000) (ht : t.p.size ≤ 100000) :
    Calls Tryz.prog 134 #[.slice A fs.length cap, .agg #[.string t.p, .bool t.d, .slice t.a t.ls.length t.c], .func (.func 33) #[] #[]] w fun e w' => e = .returned (.tuple #[.int .i64 (i : Int), .bool false]) ∧ Below w.heap.size w w' := by
  have hal : Below w.heap.size w (w.alloc (.cells #[.string t.p, .bool t.d, .slice t.a t.ls.length t.c] 62)) := (Below.refl _ _).alloc (Nat.le_refl _) _
  have HT := Lib.hid (FileAt.new_ w t)
  have HS := Lib.hid (hs.on hal)
  have HA := Lib.hid hal
  have HZ := Lib.hid hz
  have H1 := Lib.hid h1
  have H2 := Lib.hid h2
  have HI := Lib.hid hi
  have HT2 : Hid (t.p.size ≤ 100000) := ht
  clear hal hs hz h1 h2 hi ht
  go_enter Tryz.func134, Tryz.ntmps134
  go_wp2
  go_loopw [9, 10] (fun s9 s10 wr => ∃ (lo hi : Nat), s9 = .int .i64 (lo : Int) ∧ s10 = .int .i64 (hi : Int) ∧ lo ≤ hi ∧ hi ≤ fs.length ∧ Hid (lo ≤ i ∧ i ≤ hi) ∧ Hid (Below (w.alloc (.cells #[.string t.p, .bool t.d, .slice t.a t.ls.length t.c] 62)).heap.size (w.alloc (.cells #[.string t.p, .bool t.d, .slice t.a t.ls.length t.c] 62)) wr)) (fun s9 s10 _ => (intOf s10).toNat - (intOf s9).toNat)
  case atStart => exact ⟨0, fs.length, rfl, rfl, Nat.zero_le _, Nat.le_refl _, ⟨Nat.zero_le _, HI.out⟩, Below.refl _ _⟩
  case round =>
    obtain ⟨lo, hi, rfl, rfl, hlh, hhn, HLH, HB⟩ := hrel
    by_cases hlt : lo < hi
    · obtain ⟨m, hm⟩ : ∃ m, m = (lo + hi) / 2 := ⟨_, rfl⟩
      have hmid : m < fs.length := by omega
      have HM : Hid (lo ≤ m ∧ m < hi ∧ m = (lo + hi) / 2) := ⟨by omega, by omega, hm⟩
      have hmz : ((lo : Int) + (hi : Int)) / 2 = (m : Int) := by omega
      have hmz0 : (0 : Int) ≤ (m : Int) := by omega
      have hmz1 : (m : Int) < (fs.length : Int) := by omega
      have hmz2 : (m : Int) ≤ (fs.length : Int) := by omega
      clear hm
      obtain ⟨b, off, e, bl, c0, c1, c2⟩ := (HS.out.on HB.out).get hmid
      subst e
      have hT := HT.out.on HB.out
      have t0 := hT.c0
      have t1 := hT.c1
      have t2 := hT.c2
      have hltz : (lo : Int) < (hi : Int) := by omega
      by_cases hmi : m < i
      · skip
        have C := Lib.hid (fun W => bypath_any fs[m].p t.p fs[m].d t.d fs[m].a t.a fs[m].ls.length t.ls.length fs[m].c t.c W (HZ.out _ (List.getElem_mem _)) HT2.out (-1) (cmpP_less (H1.out _ hmid hmi)))
        have HN : Hid (m + 1 ≤ i ∧ i ≤ hi) := ⟨by omega, HLH.out.2⟩
        generalize fs[m].p = x0 at *
        generalize fs[m].d = x1 at *
        generalize fs[m].a = x2 at *
        generalize fs[m].ls.length = x3 at *
        generalize fs[m].c = x4 at *
        clear hT
        go_wp2_with fail
        go_region_held3 (fun w' => w'.cell? ⟨b, off + m * 3, none⟩ = some (.string x0) ∧ w'.cell? ⟨b, off + m * 3 + 1, none⟩ = some (.bool x1) ∧ w'.cell? ⟨b, off + m * 3 + 2, none⟩ = some (.slice x2 x3 x4) ∧ w'.cell? ⟨w.heap.size, 0, none⟩ = some (.string t.p) ∧ w'.cell? ⟨w.heap.size, 1, none⟩ = some (.bool t.d) ∧ w'.cell? ⟨w.heap.size, 2, none⟩ = some (.slice t.a t.ls.length t.c)) (first | exact ⟨c0, c1, c2, t0, t1, t2⟩ | exact ⟨cell_on2 c0 hb7, cell_on2 c1 hb7, cell_on2 c2 hb7, cell_on2 t0 hb7, cell_on2 t1 hb7, cell_on2 t2 hb7⟩ | (go_keep; done)) (first | (go_at_call 33; refine (C.out _).mono ?_; rintro e w7 ⟨rfl, hb7⟩))
        have hb8 := HB.out.trans ((below_dr hb7).mono HB.out.size)
        have HB8 := Lib.hid hb8
        clear hb7 hb8 c0 c1 c2 t0 t1 t2 C
        go_wp2
        go_roundw
        case rel => exact ⟨m + 1, hi, by go_num, by go_num, by have := HM.out; omega, by have := HM.out; omega, HN.out, HB8.out⟩
        case measure => have := HM.out; simp [intOf]; omega
      · skip
        have C := Lib.hid (fun W => bypath_any fs[m].p t.p fs[m].d t.d fs[m].a t.a fs[m].ls.length t.ls.length fs[m].c t.c W (HZ.out _ (List.getElem_mem _)) HT2.out 1 (cmpP_more (H2.out _ hmid (by omega))))
        have HN : Hid (lo ≤ i ∧ i ≤ m) := ⟨HLH.out.1, by omega⟩
        generalize fs[m].p = x0 at *
        generalize fs[m].d = x1 at *
        generalize fs[m].a = x2 at *
        generalize fs[m].ls.length = x3 at *
        generalize fs[m].c = x4 at *
        clear hT
        go_wp2_with fail
        go_region_held3 (fun w' => w'.cell? ⟨b, off + m * 3, none⟩ = some (.string x0) ∧ w'.cell? ⟨b, off + m * 3 + 1, none⟩ = some (.bool x1) ∧ w'.cell? ⟨b, off + m * 3 + 2, none⟩ = some (.slice x2 x3 x4) ∧ w'.cell? ⟨w.heap.size, 0, none⟩ = some (.string t.p) ∧ w'.cell? ⟨w.heap.size, 1, none⟩ = some (.bool t.d) ∧ w'.cell? ⟨w.heap.size, 2, none⟩ = some (.slice t.a t.ls.length t.c)) (first | exact ⟨c0, c1, c2, t0, t1, t2⟩ | exact ⟨cell_on2 c0 hb7, cell_on2 c1 hb7, cell_on2 c2 hb7, cell_on2 t0 hb7, cell_on2 t1 hb7, cell_on2 t2 hb7⟩ | (go_keep; done)) (first | (go_at_call 33; refine (C.out _).mono ?_; rintro e w7 ⟨rfl, hb7⟩))
        have hb8 := HB.out.trans ((below_dr hb7).mono HB.out.size)
        have HB8 := Lib.hid hb8
        clear hb7 hb8 c0 c1 c2 t0 t1 t2 C
        go_wp2
        go_roundw
        case rel => exact ⟨lo, m, by go_num, by go_num, by have := HM.out; omega, by have := HM.out; omega, HN.out, HB8.out⟩
        case measure => have := HM.out; simp [intOf]; omega
    · have hil : lo = i := by have := HLH.out; omega
      have hih : hi = i := by have := HLH.out; omega
      subst hil
      subst hih
      have hltz : ¬ (hi : Int) < (hi : Int) := by omega
      by_cases hin : hi < fs.length
      · obtain ⟨b, off, e, bl, c0, c1, c2⟩ := (HS.out.on HB.out).get hin
        subst e
        have hT := HT.out.on HB.out
        have t0 := hT.c0
        have t1 := hT.c1
        have t2 := hT.c2
        have C := Lib.hid (fun W => bypath_any fs[hi].p t.p fs[hi].d t.d fs[hi].a t.a fs[hi].ls.length t.ls.length fs[hi].c t.c W (HZ.out _ (List.getElem_mem _)) HT2.out 1 (cmpP_more (H2.out _ hin (Nat.le_refl _))))
        have hz0 : (0 : Int) ≤ (hi : Int) := by omega
        have hz1 : (hi : Int) < (fs.length : Int) := by omega
        generalize fs[hi].p = x0 at *
        generalize fs[hi].d = x1 at *
        generalize fs[hi].a = x2 at *
        generalize fs[hi].ls.length = x3 at *
        generalize fs[hi].c = x4 at *
        clear hT
        go_wp2_with fail
        go_region_held3 (fun w' => w'.cell? ⟨b, off + hi * 3, none⟩ = some (.string x0) ∧ w'.cell? ⟨b, off + hi * 3 + 1, none⟩ = some (.bool x1) ∧ w'.cell? ⟨b, off + hi * 3 + 2, none⟩ = some (.slice x2 x3 x4) ∧ w'.cell? ⟨w.heap.size, 0, none⟩ = some (.string t.p) ∧ w'.cell? ⟨w.heap.size, 1, none⟩ = some (.bool t.d) ∧ w'.cell? ⟨w.heap.size, 2, none⟩ = some (.slice t.a t.ls.length t.c)) (first | exact ⟨c0, c1, c2, t0, t1, t2⟩ | exact ⟨cell_on2 c0 hb7, cell_on2 c1 hb7, cell_on2 c2 hb7, cell_on2 t0 hb7, cell_on2 t1 hb7, cell_on2 t2 hb7⟩ | (go_keep; done)) (first | (go_at_call 33; refine (C.out _).mono ?_; rintro e w7 ⟨rfl, hb7⟩))
        have hb8 := HB.out.trans ((below_dr hb7).mono HB.out.size)
        have HB8 := Lib.hid (HA.out.trans (hb8.mono HA.out.size))
        clear hb7 hb8 c0 c1 c2 t0 t1 t2 C
        go_wp2
        go_ret2
        exact ⟨rfl, HB8.out⟩
      · have hin2 : hi = fs.length := by omega
        have hz1 : decide ((hi : Int) < (fs.length : Int)) = false := decide_eq_false (by omega)
        have HB8 := Lib.hid (HA.out.trans (HB.out.mono HA.out.size))
        have hz2 : ¬ (hi : Int) < (fs.length : Int) := by omega
        clear hin2 hhn
        go_wp2_with fail
        go_quiet (fail)
        go_wp2
        go_ret2
        exact ⟨rfl, below_drewN HB8.out _⟩
end Go.Proofs.YtalabahjfmcnbaaGreatDoor
namespace Go.Proofs.YtalabahjfmcnbaaGreatDoor
open Go.RowKit
set_option linter.unusedVariables false

theorem fs_left {w w9 : World} {B G n c : Nat} {A : Option Addr} {d : List Fm} (ho : OwnF w9 B (.slice A n c) d) (hG : G < B) (hwG : w.heap.size ≤ G) (hb : Below w.heap.size w w9) (hok : ∀ f ∈ d, f.Ok w w.heap.size) :
    FsLeft w d (.returned (.agg #[.slice A n c])) (w9.setCell ⟨G, 0, none⟩ (.slice A n c)) := by
  have hbf : Below w.heap.size w (w9.setCell ⟨G, 0, none⟩ (.slice A n c)) := below_set hb hwG hb.size
  have ho4 := ho.grown (grown_cell w9 G 0 (.slice A n c)) hG
  have hokd : ∀ f ∈ d, f.Ok (w9.setCell ⟨G, 0, none⟩ (.slice A n c)) (w9.setCell ⟨G, 0, none⟩ (.slice A n c)).heap.size := fun f hf => (hok f hf).on hbf
  obtain ⟨A5, c5, e5, h5, r5⟩ := ho4.fs hokd
  simp only [Value.slice.injEq] at e5
  obtain ⟨rfl, rfl, rfl⟩ := e5
  exact ⟨_, _, rfl, ⟨h5, r5, ho4.addr.2.2⟩, hbf⟩
theorem keep_cell {w : World} {b o g i : Nat} {u v : Value} (h : w.cell? ⟨b, o, none⟩ = some v) (hne : b ≠ g) : (w.setCell ⟨g, i, none⟩ u).cell? ⟨b, o, none⟩ = some v := by
  rw [World.cell?_setCell_other _ _ _ _ (by intro e; simp only [Addr.mk.injEq] at e; exact hne e.1.symm)]
  exact h
set_option maxHeartbeats 4000000 in
set_option maxRecDepth 100000 in
theorem with_any (A : Option Addr) (fs : List Fm) (cap : Nat) (f : Fm) (i : Nat) (hi : i ≤ fs.length) (h1 : ∀ j (hj : j < fs.length), j < i → lessF fs[j] f = true) (h2 : ∀ j (hj : j < fs.length), i ≤ j → lessF f fs[j] = true) (w : World) (hs : Fs w w.heap.size A fs) (hrm : Room A fs.length cap) (hA : Flat A) (hn : fs.length ≤ 1000) (hz : ∀ f ∈ fs, f.p.size ≤ 100000) (hf : f.Ok w w.heap.size) (hfz : f.p.size ≤ 100000) :
    Calls Tryz.prog 93 #[.agg #[.slice A fs.length cap], .agg #[.string f.p, .bool f.d, .slice f.a f.ls.length f.c]] w (FsLeft w (fs.take i ++ [f] ++ fs.drop i)) := by
  have hal : Below w.heap.size w (((w.alloc (.cells #[.slice A fs.length cap] 43)).alloc (.cells #[.string f.p, .bool f.d, .slice f.a f.ls.length f.c] 62)).alloc (.cells #[.slice none 0 0] 43)) := (((Below.refl _ _).alloc (Nat.le_refl _) _).alloc (by simp) _).alloc (by simp; omega) _
  have hT : TAt (((w.alloc (.cells #[.slice A fs.length cap] 43)).alloc (.cells #[.string f.p, .bool f.d, .slice f.a f.ls.length f.c] 62)).alloc (.cells #[.slice none 0 0] 43)) w.heap.size A fs.length cap := ((TAt.new_ w A fs.length cap).on ((Below.refl _ _).alloc (Nat.le_refl _) _)).on ((Below.refl _ _).alloc (Nat.le_refl _) _)
  have hFi : FileAt (((w.alloc (.cells #[.slice A fs.length cap] 43)).alloc (.cells #[.string f.p, .bool f.d, .slice f.a f.ls.length f.c] 62)).alloc (.cells #[.slice none 0 0] 43)) (w.heap.size + 1) f := by
    have h := (FileAt.new_ (w.alloc (.cells #[.slice A fs.length cap] 43)) f).on ((Below.refl _ _).alloc (Nat.le_refl _) (.cells #[.slice none 0 0] 43))
    exact (by simpa using h : FileAt _ (w.heap.size + 1) f)
  have hF : TAt (((w.alloc (.cells #[.slice A fs.length cap] 43)).alloc (.cells #[.string f.p, .bool f.d, .slice f.a f.ls.length f.c] 62)).alloc (.cells #[.slice none 0 0] 43)) (w.heap.size + 1 + 1) none 0 0 := by
    have h := TAt.new_ ((w.alloc (.cells #[.slice A fs.length cap] 43)).alloc (.cells #[.string f.p, .bool f.d, .slice f.a f.ls.length f.c] 62)) none 0 0
    exact (by simpa using h : TAt _ (w.heap.size + 1 + 1) none 0 0)
  have CB := Lib.hid (bsearch_any A fs cap f i hi h1 h2 _ (hs.on hal) (by omega) hz hfz)
  have HOK : Hid (∀ g ∈ fs.take i ++ [f] ++ fs.drop i, g.Ok w w.heap.size) := fun g hg => by
    rcases List.mem_append.1 hg with hg | hg
    · rcases List.mem_append.1 hg with hg | hg
      · exact hs.ok g (List.mem_of_mem_take hg)
      · rw [List.mem_singleton] at hg; rw [hg]; exact hf
    · exact hs.ok g (List.mem_of_mem_drop hg)
  obtain ⟨A1, k1, fd1, hfd1, P1, run1⟩ := partf_of A fs cap 0 i hrm hA (Nat.zero_le _) hi
  obtain ⟨A2, k2, fd2, hfd2, P2, run2⟩ := partf_of A fs cap i fs.length hrm hA hi (Nat.le_refl _)
  have r1 : ∀ W, (Instr.slice 38 (.slice A fs.length cap) none (some (.int .i64 (i : Int))) none).run Tryz.prog W = .ok (.slice A1 fd1.length k1) W := fun W => run1 none (some (.int .i64 (i : Int))) W (.inr ⟨rfl, rfl⟩) (.inl rfl)
  have r2 : ∀ W, (Instr.slice 38 (.slice A fs.length cap) (some (.int .i64 (i : Int))) none none).run Tryz.prog W = .ok (.slice A2 fd2.length k2) W := fun W => run2 (some (.int .i64 (i : Int))) none W (.inl rfl) (.inr ⟨rfl, rfl⟩)
  have e1 : fd1 = fs.take i := by rw [hfd1, List.drop_zero, Nat.sub_zero]
  have e2 : fd2 = fs.drop i := by rw [hfd2, List.take_of_length_le (by rw [List.length_drop]; omega)]
  rw [← e1, ← e2] at HOK ⊢
  obtain ⟨d, hd⟩ : ∃ d, fd1 ++ [f] ++ fd2 = d := ⟨_, rfl⟩
  have HD := Lib.hid hd
  rw [hd] at HOK ⊢
  clear hd
  have hl1 : fd1.length ≤ 1000 := by rw [e1, List.length_take]; omega
  have hl2 : fd2.length ≤ 1000 := by rw [e2, List.length_drop]; omega
  have HP1 := Lib.hid P1
  have HP2 := Lib.hid P2
  have HS := Lib.hid (hs.on hal)
  have HA := Lib.hid hal
  have HT := Lib.hid hT
  have HF := Lib.hid hF
  have HFI := Lib.hid hFi
  clear hal hs hT hF hFi h1 h2 hz hf hfz hi hfd1 hfd2 P1 P2 run1 run2 e1 e2 hrm hA
  go_enter Tryz.func93, Tryz.ntmps93
  go_wp2_with fail
  generalize (((w.alloc (.cells #[.slice A fs.length cap] 43)).alloc (.cells #[.string f.p, .bool f.d, .slice f.a f.ls.length f.c] 62)).alloc (.cells #[.slice none 0 0] 43)) = wa at *
  refine CB.out.mono ?_
  rintro e w1 ⟨rfl, hb1⟩
  have hT1 := HT.out.on hb1
  have hFI1 := HFI.out.on hb1
  have t0 := hT1.c0
  have a0 := hFI1.c0
  have a1 := hFI1.c1
  have a2 := hFI1.c2
  have HT1 := Lib.hid hT1
  have HFI1 := Lib.hid hFI1
  have HF1 := Lib.hid (HF.out.on hb1)
  have HS1 := Lib.hid (HS.out.on hb1)
  have HB1 := Lib.hid (HA.out.trans (hb1.mono HA.out.size))
  clear hb1 hT1 hFI1 CB HT HFI HF HS
  have hB2 : Below w1.heap.size w1 (w1.drew.alloc (.cells #[.string f.p, .bool f.d, .slice f.a f.ls.length f.c] 62)) := (Below.refl _ _).drew.alloc (Nat.le_refl _) _
  have hB3 : Below w1.heap.size w1 ((w1.drew.alloc (.cells #[.string f.p, .bool f.d, .slice f.a f.ls.length f.c] 62)).alloc (.cells #[.slice A1 fd1.length k1, .slice (some ⟨w1.heap.size, 0, none⟩) 1 1, .slice A2 fd2.length k2] 38)) := hB2.alloc hB2.size _
  have HB3 := Lib.hid hB3
  have CC := Lib.hid (concat_any (w1.heap.size + 1) 3 [⟨A1, k1, fd1⟩, ⟨some ⟨w1.heap.size, 0, none⟩, 1, [f]⟩, ⟨A2, k2, fd2⟩] ((w1.drew.alloc (.cells #[.string f.p, .bool f.d, .slice f.a f.ls.length f.c] 62)).alloc (.cells #[.slice A1 fd1.length k1, .slice (some ⟨w1.heap.size, 0, none⟩) 1 1, .slice A2 fd2.length k2] 38))
    (by simp)
    (by
      have hnew := World.cell?_alloc_new (w1.drew.alloc (.cells #[.string f.p, .bool f.d, .slice f.a f.ls.length f.c] 62)) #[.slice A1 fd1.length k1, .slice (some ⟨w1.heap.size, 0, none⟩) 1 1, .slice A2 fd2.length k2] 38
      have hsz : (w1.drew.alloc (.cells #[.string f.p, .bool f.d, .slice f.a f.ls.length f.c] 62)).heap.size = w1.heap.size + 1 := by simp
      rw [hsz] at hnew
      intro j hj
      have hj3 : j < 3 := hj
      rw [hnew]
      match j, hj3 with
      | 0, _ => rfl
      | 1, _ => rfl
      | 2, _ => rfl)
    (by
      intro r hr
      simp only [List.mem_cons, List.not_mem_nil, or_false] at hr
      rcases hr with rfl | rfl | rfl
      · exact ⟨(HP1.out.cells w1 HS1.out.cells).on hB3, HP1.out.room⟩
      · exact ⟨((FileAt.new_ w1.drew f).on ((Below.refl _ _).alloc (Nat.le_refl _) _)).cells, ⟨fun h => (by cases h), Nat.le_refl _⟩⟩
      · exact ⟨(HP2.out.cells w1 HS1.out.cells).on hB3, HP2.out.room⟩)
    (by simp) (by simp [allRw]; omega) (by simp [allRw]; omega))
  rw [show allRw [⟨A1, k1, fd1⟩, ⟨some ⟨w1.heap.size, 0, none⟩, 1, [f]⟩, ⟨A2, k2, fd2⟩] = d by rw [← HD.out]; simp [allRw]] at CC
  obtain ⟨n9, hn9⟩ : ∃ n9, d.length = n9 := ⟨_, rfl⟩
  have HN9 := Lib.hid hn9
  have CC1 := CC.out.mono (fun e w' h => RowF.parts h)
  rw [hn9] at CC1
  have CC2 : Hid (Calls Tryz.prog 135 #[.slice (some ⟨w1.heap.size + 1, 0, none⟩) 3 3] ((w1.drew.alloc (.cells #[.string f.p, .bool f.d, .slice f.a f.ls.length f.c] 62)).alloc (.cells #[.slice A1 fd1.length k1, .slice (some ⟨w1.heap.size, 0, none⟩) 1 1, .slice A2 fd2.length k2] 38)) (RowP ((w1.drew.alloc (.cells #[.string f.p, .bool f.d, .slice f.a f.ls.length f.c] 62)).alloc (.cells #[.slice A1 fd1.length k1, .slice (some ⟨w1.heap.size, 0, none⟩) 1 1, .slice A2 fd2.length k2] 38)) d n9)) := CC1
  clear hn9 CC1
  clear hB2 hB3 CC
  have hF1 := HF1.out
  go_wp2_with fail
  go_region_held3 (fun w' => w'.cell? ⟨w.heap.size, 0, none⟩ = some (.slice A fs.length cap) ∧ w'.cell? ⟨w.heap.size + 1, 0, none⟩ = some (.string f.p) ∧ w'.cell? ⟨w.heap.size + 1, 1, none⟩ = some (.bool f.d) ∧ w'.cell? ⟨w.heap.size + 1, 2, none⟩ = some (.slice f.a f.ls.length f.c)) (first | exact ⟨t0, a0, a1, a2⟩ | exact ⟨((HT1.out.on HB3.out).on hb9).c0, ((HFI1.out.on HB3.out).on hb9).c0, ((HFI1.out.on HB3.out).on hb9).c1, ((HFI1.out.on HB3.out).on hb9).c2⟩ | exact ⟨keep_cell ((HT1.out.on HB3.out).on hb9).c0 (by omega), keep_cell ((HFI1.out.on HB3.out).on hb9).c0 (by omega), keep_cell ((HFI1.out.on HB3.out).on hb9).c1 (by omega), keep_cell ((HFI1.out.on HB3.out).on hb9).c2 (by omega)⟩ | (go_keep; done)) (first
    | (go_at_call 135; refine CC2.out.mono ?_; rintro e w9 ⟨A9, c9, rfl, ho9, hb9⟩; have x0 := ((HF1.out.on HB3.out).on hb9).c0; have x1 := ((HF1.out.on HB3.out).on hb9).fz 0))
  have hbw : Below w.heap.size w w9 := HB1.out.trans ((HB3.out.trans (hb9.mono HB3.out.size)).mono HB1.out.size)
  have hG4 : w.heap.size + 1 + 1 < w1.heap.size := HF1.out.lt
  have HFS := Lib.hid (((HF1.out.on HB3.out).on hb9).set A9 n9 c9)
  have hfin := Lib.hid (fs_left ho9 (Nat.lt_of_lt_of_le hG4 HB3.out.size) (by omega) hbw HOK.out)
  clear ho9 hb9 x0 x1 hF1 hbw CC2 r1 r2 t0 a0 a1 a2
  go_wp2
  (try simp only [Exit.inBlock, Exit.then])
  refine bodyPost_ret (ret_tree rfl _ _ _ A9 n9 c9 rfl HFS.out) rfl ?_
  exact hfin.out
end Go.Proofs.YtalabahjfmcnbaaGreatDoor
