/- Trees, plainly: what a call answers, by what files say. Lines, plainly: which texts are lines; the text of lines; the lines of a text; where lines stand. The reference's At of layer 3. The reference's Right, Check, Text, Split, At of layer 3. -/
import Derived.Test.YtaepfahpbnpeiaaGreatDoorCk12
import Derived.Shelf.Spec.BytesIndexFunc
import Derived.Test.YtaepfahpbnpeiaaGreatDoorCk01
import Derived.BigQuiet
import Derived.Deep.QuietTactic
import Derived.Handy
import Derived.Test.YtaepfahpbnpeiaaGreatDoorShelf
import Derived.Lib.LaidU8
import Derived.BigRegion
namespace Go.Proofs.YtaepfahpbnpeiaaGreatDoor
open Go.RowKit
set_option linter.unusedVariables false

def lessK (x y : PF) : Bool := lessP nameP x.1 y.1
def placeK (x : PF) (out : List PF) : Nat → Nat
  | 0 => 0
  | j + 1 => match out[j]? with
    | some g => if lessK x g then placeK x out j else j + 1
    | none => j + 1
def insK (out : List PF) (x : PF) : List PF := out.take (placeK x out out.length) ++ [x] ++ out.drop (placeK x out out.length)
def sortK (l : List PF) : List PF := l.foldl insK []
def withoutK (ks : List PF) (p : List UInt8) : List PF := ks.filter fun k => decide (k.1 ≠ p)
def withK (ks : List PF) (x : PF) : List PF := sortK (withoutK ks x.1 ++ [x])
def dirK (ks : List PF) (p : List UInt8) : Bool := decide (p = []) || (match ks.find? fun k => decide (k.1 = p) with
  | some k => k.2.1
  | none => false)
def childK (ks : List PF) (p : List UInt8) : Bool := ks.any fun k => decide (dirP nameP k.1 = p)
/-- What a call answers: its error, and the files behind it; ck: the error of its lines. -/
def doK (ks : List PF) (kind : Int) (p dst : List UInt8) (ls : List (List UInt8)) (ck : Int) : Int × List PF :=
  if names nameP p = [] ∨ ((kind < 0 ∨ 2 < kind) ∧ names nameP dst = []) then (8, ks)
  else match ks.find? fun k => decide (k.1 = p) with
  | none =>
    if kind = 0 then (if dirK ks (dirP nameP p) = false then (9, ks) else (0, withK ks (p, true, [])))
    else if kind = 1 then (if ck ≠ 0 then (ck, ks) else if dirK ks (dirP nameP p) = false then (9, ks) else (0, withK ks (p, false, ls)))
    else (9, ks)
  | some f =>
    if kind = 0 then (10, ks)
    else if kind = 1 then (if f.2.1 = true then (11, ks) else if ck ≠ 0 then (ck, ks) else (0, withK ks (p, false, ls)))
    else if kind = 2 then (if childK ks p = true then (12, ks) else (0, withoutK ks p))
    else if f.2.1 = true then (11, ks)
    else if (ks.find? fun k => decide (k.1 = dst)).isSome = true then (10, ks)
    else if dirK ks (dirP nameP dst) = false then (9, ks)
    else (0, withK (withoutK ks p) (dst, false, f.2.2))

theorem key_less (x y : Fm) : lessF x y = lessK x.key y.key := rfl
theorem key_place (x : Fm) (out : List Fm) : ∀ n, placeF x out n = placeK x.key (fkeys out) n
  | 0 => rfl
  | j + 1 => by
    have ih := key_place x out j
    rw [placeF, placeK, fkeys, List.getElem?_map]
    cases h : out[j]? with
    | none => rfl
    | some g =>
      simp only [Option.map_some]
      rw [key_less, ih]
      rfl
theorem key_ins (out : List Fm) (x : Fm) : fkeys (insF out x) = insK (fkeys out) x.key := by
  unfold insF insK
  rw [← key_place, fkeys_len]
  simp [fkeys, List.map_take, List.map_drop]
theorem key_foldl : ∀ (l out : List Fm), fkeys (l.foldl insF out) = (fkeys l).foldl insK (fkeys out)
  | [], out => rfl
  | x :: l, out => by
    rw [List.foldl_cons, key_foldl l, key_ins]
    rfl
theorem key_sort (l : List Fm) : fkeys (sortF l) = sortK (fkeys l) := key_foldl l []
theorem key_eq (f : Fm) (p : ByteArray) : decide (f.p = p) = decide (f.key.1 = p.data.toList) := by
  rw [decide_eq_decide]
  exact ⟨fun h => by rw [← h]; rfl, fun h => bytes_inj h⟩
theorem key_without (fs : List Fm) (p : ByteArray) : fkeys (withoutF fs p) = withoutK (fkeys fs) p.data.toList := by
  unfold fkeys withoutF withoutK
  rw [List.filter_map]
  congr 1
  congr 1
  funext f
  have := key_eq f p
  simp only [Function.comp, decide_not]
  rw [this]
theorem key_with (fs : List Fm) (f : Fm) : fkeys (withF fs f) = withK (fkeys fs) f.key := by
  unfold withF withK
  rw [key_sort]
  congr 1
  show List.map Fm.key (_ ++ _) = _
  rw [List.map_append]
  show fkeys (withoutF fs f.p) ++ _ = _
  rw [key_without]
  rfl
theorem key_find (fs : List Fm) (p : ByteArray) : (fkeys fs).find? (fun k => decide (k.1 = p.data.toList)) = (fs.find? fun f => decide (f.p = p)).map Fm.key := by
  unfold fkeys
  rw [List.find?_map]
  congr 2
  funext f
  exact (key_eq f p).symm
theorem key_dir (fs : List Fm) (p : ByteArray) : dirAt fs p = dirK (fkeys fs) p.data.toList := by
  unfold dirAt dirK
  rw [key_find]
  congr 1
  · rw [decide_eq_decide]
    exact ⟨fun h => by rw [h], fun h => bytes_inj h⟩
  · cases fs.find? fun f => decide (f.p = p) <;> rfl
theorem up_list (p : ByteArray) : (upB p).data.toList = dirP nameP p.data.toList := of_toB _
theorem key_child (fs : List Fm) (p : ByteArray) : childF fs p = childK (fkeys fs) p.data.toList := by
  unfold childF childK fkeys
  rw [List.any_map]
  congr 1
  funext f
  simp only [Function.comp]
  rw [decide_eq_decide]
  constructor
  · intro h
    have := congrArg (fun s : ByteArray => s.data.toList) h
    simp only [up_list] at this
    exact this
  · intro h
    apply bytes_inj
    rw [up_list]
    exact h
theorem key_do (fs : List Fm) (c : Cm) (ck : Int) : (doF fs c ck).1 = (doK (fkeys fs) c.kind c.p.data.toList c.dst.data.toList c.ls ck).1 ∧ fkeys (doF fs c ck).2 = (doK (fkeys fs) c.kind c.p.data.toList c.dst.data.toList c.ls ck).2 := by
  have e1 : (rightP c.p = false ∨ ((c.kind < 0 ∨ 2 < c.kind) ∧ rightP c.dst = false)) = (names nameP c.p.data.toList = [] ∨ ((c.kind < 0 ∨ 2 < c.kind) ∧ names nameP c.dst.data.toList = [])) := by
    unfold rightP
    simp
  unfold doF doK
  rw [key_find, key_find, key_dir, key_dir, key_child, up_list, up_list]
  by_cases h : rightP c.p = false ∨ ((c.kind < 0 ∨ 2 < c.kind) ∧ rightP c.dst = false)
  · rw [if_pos h, if_pos (Eq.mp e1 h)]
    exact ⟨rfl, rfl⟩
  · rw [if_neg h, if_neg (fun k => h (Eq.mpr e1 k))]
    cases hf : fs.find? fun f => decide (f.p = c.p) with
    | none =>
      simp only [Option.map_none]
      split
      · split
        · exact ⟨rfl, rfl⟩
        · exact ⟨rfl, key_with _ _⟩
      · split
        · split
          · exact ⟨rfl, rfl⟩
          · split
            · exact ⟨rfl, rfl⟩
            · exact ⟨rfl, key_with _ _⟩
        · exact ⟨rfl, rfl⟩
    | some f =>
      simp only [Option.map_some, Option.isSome_map]
      split
      · exact ⟨rfl, rfl⟩
      · split
        · show _ ∧ _
          have : f.key.2.1 = f.d := rfl
          rw [this]
          split
          · exact ⟨rfl, rfl⟩
          · split
            · exact ⟨rfl, rfl⟩
            · exact ⟨rfl, key_with _ _⟩
        · split
          · split
            · exact ⟨rfl, rfl⟩
            · exact ⟨rfl, key_without _ _⟩
          · have : f.key.2.1 = f.d := rfl
            rw [this]
            split
            · exact ⟨rfl, rfl⟩
            · split
              · exact ⟨rfl, rfl⟩
              · split
                · exact ⟨rfl, rfl⟩
                · refine ⟨rfl, ?_⟩
                  show fkeys (withF _ _) = _
                  rw [key_with, key_without]
                  rfl
end Go.Proofs.YtaepfahpbnpeiaaGreatDoor
namespace Go.Proofs.YtaepfahpbnpeiaaGreatDoor
set_option linter.unusedVariables false

/-- A rune that no line has (r, of n bytes). -/
def badRune (x : Nat × Nat) : Bool := (x.1 == 65533 && x.2 == 1) || (decide (x.1 < 32) && !(x.1 == 9))
def runesOk (s : ByteArray) : Nat → Nat → Bool
  | 0, _ => true
  | f + 1, i => if i < s.size then (if badRune (Utf8.decode s i) then false else runesOk s f (i + (Utf8.decode s i).2)) else true
/-- Are the runes from byte i on a line's? -/
def runes (s : ByteArray) (i : Nat) : Bool := runesOk s (s.size - i) i
theorem decode_pos (s : ByteArray) (i : Nat) : 1 ≤ (Utf8.decode s i).2 := by
  unfold Utf8.decode
  dsimp only
  repeat' split
  all_goals simp
theorem decode_le (s : ByteArray) (i : Nat) : (Utf8.decode s i).2 ≤ 4 := by
  unfold Utf8.decode
  dsimp only
  repeat' split
  all_goals simp
theorem decode_rune (s : ByteArray) (i : Nat) : (Utf8.decode s i).1 ≤ 2097151 := by
  unfold Utf8.decode
  dsimp only
  have h : ∀ k, (s.get! (i + k)).toNat < 256 := fun k => UInt8.toNat_lt _
  have h0 := h 0
  rw [Nat.add_zero] at h0
  have h1 := h 1
  have h2 := h 2
  have h3 := h 3
  repeat' split
  all_goals simp [Utf8.runeError]
  all_goals omega
theorem runesOk_fuel (s : ByteArray) : ∀ (f g i : Nat), s.size - i ≤ f → s.size - i ≤ g → runesOk s f i = runesOk s g i
  | 0, 0, _, _, _ => rfl
  | 0, g + 1, i, hf, _ => by simp [runesOk, show ¬ i < s.size by omega]
  | f + 1, 0, i, _, hg => by simp [runesOk, show ¬ i < s.size by omega]
  | f + 1, g + 1, i, hf, hg => by
    unfold runesOk
    by_cases h : i < s.size
    · have hp := decode_pos s i
      rw [if_pos h, if_pos h, runesOk_fuel s f g _ (by omega) (by omega)]
    · rw [if_neg h, if_neg h]
theorem runes_end {s : ByteArray} {i : Nat} (h : ¬ i < s.size) : runes s i = true := by
  unfold runes
  rw [show s.size - i = 0 by omega]; rfl
theorem runes_bad {s : ByteArray} {i : Nat} (h : i < s.size) (hb : badRune (Utf8.decode s i) = true) : runes s i = false := by
  unfold runes
  obtain ⟨f, hf⟩ : ∃ f, s.size - i = f + 1 := ⟨s.size - i - 1, by omega⟩
  rw [hf]
  unfold runesOk
  rw [if_pos h, if_pos hb]
theorem runes_good {s : ByteArray} {i : Nat} (h : i < s.size) (hb : badRune (Utf8.decode s i) = false) : runes s i = runes s (i + (Utf8.decode s i).2) := by
  have hp := decode_pos s i
  have e : runes s i = runesOk s ((s.size - i - 1) + 1) i := by unfold runes; congr 1; omega
  rw [e]
  unfold runesOk
  rw [if_pos h, if_neg (by rw [hb]; simp)]
  exact runesOk_fuel s _ _ _ (by omega) (by omega)
/-- Is a text a line? -/
def lineB (s : ByteArray) : Bool := decide (s.size ≤ 200) && runes s 0
/-- The error of lines that may not be a file's: 4, too many; 6, one is none; 0. -/
def checkN (ss : List ByteArray) : Int := if 2000 < ss.length then 4 else if ss.all lineB then 0 else 6
theorem checkN_big {ss : List ByteArray} (h : 2000 < ss.length) : checkN ss = 4 := by simp [checkN, h]
theorem checkN_bad {ss : List ByteArray} {k : Nat} (hn : ¬ 2000 < ss.length) (hk : k < ss.length) (h : lineB ss[k] = false) : checkN ss = 6 := by
  have : ss.all lineB = false := by
    rw [List.all_eq_false]
    exact ⟨ss[k], List.getElem_mem _, by rw [h]; simp⟩
  simp [checkN, hn, this]
theorem checkN_ok {ss : List ByteArray} (hn : ¬ 2000 < ss.length) (h : ∀ k (hk : k < ss.length), lineB ss[k] = true) : checkN ss = 0 := by
  have : ss.all lineB = true := by
    rw [List.all_eq_true]
    intro s hs
    obtain ⟨k, hk, rfl⟩ := List.getElem_of_mem hs
    exact h k hk
  simp [checkN, hn, this]
/-- The text of lines. -/
def textL (ls : List (List UInt8)) : List UInt8 := (ls.map fun l => l ++ [10]).flatten
theorem textL_snoc (ls : List (List UInt8)) (l : List UInt8) : textL (ls ++ [l]) = textL ls ++ l ++ [10] := by simp [textL]
/-- The lines of a text, and whether it ends so; 'cur' is what a line has so far. -/
def splitGo : List UInt8 → List UInt8 → List (List UInt8) × Bool
  | cur, [] => ([], cur.isEmpty)
  | cur, b :: r => if b = 10 then (cur :: (splitGo [] r).1, (splitGo [] r).2) else splitGo (cur ++ [b]) r
/-- Lines ahead of what is split yet. -/
def aheadS (ls : List (List UInt8)) (x : List (List UInt8) × Bool) : List (List UInt8) × Bool := (ls ++ x.1, x.2)
theorem splitGo_end (ls : List (List UInt8)) (cur r : List UInt8) : aheadS ls (splitGo cur (10 :: r)) = aheadS (ls ++ [cur]) (splitGo [] r) := by simp [splitGo, aheadS]
theorem splitGo_more (ls : List (List UInt8)) (cur r : List UInt8) (b : UInt8) (h : b ≠ 10) : aheadS ls (splitGo cur (b :: r)) = aheadS ls (splitGo (cur ++ [b]) r) := by simp [splitGo, h]
/-- Do lines stand at a place? -/
def atB (ls part : List (List UInt8)) (k : Int) : Bool := decide (0 ≤ k) && decide ((part.length : Int) ≤ ls.length - k) && decide ((ls.drop k.toNat).take part.length = part)
end Go.Proofs.YtaepfahpbnpeiaaGreatDoor
namespace Go.Proofs.YtaepfahpbnpeiaaGreatDoor
open Go.RowKit
set_option linter.unusedVariables false

theorem atB_no {ls part : List (List UInt8)} {a k : Nat} (hk : k < part.length) (ha : a + k < ls.length) (h : ls[a + k] ≠ part[k]) : atB ls part a = false := by
  have : ¬ ((ls.drop a).take part.length = part) := by
    intro e
    have h1 := congrArg (·[k]?) e
    simp only [List.getElem?_take, if_pos hk, List.getElem?_drop, List.getElem?_eq_getElem ha, List.getElem?_eq_getElem hk, Option.some.injEq] at h1
    exact h h1
  simp [atB, this]
theorem atB_yes {ls part : List (List UInt8)} {a : Nat} (hl : a + part.length ≤ ls.length) (h : ∀ k (hk : k < part.length), ls[a + k]'(by omega) = part[k]) : atB ls part a = true := by
  have : (ls.drop a).take part.length = part := by
    apply List.ext_getElem
    · simp; omega
    · intro k h1 h2
      simp only [List.getElem_take, List.getElem_drop]
      exact h k h2
  simp [atB, this]
  omega

set_option maxRecDepth 100000 in
theorem refat_any (A A2 : Option Addr) (la lc : List (List UInt8)) (cap cap2 : Nat) (n : Int) (w : World) (hs : Strs w w.heap.size A (toBs la)) (ht : Strs w w.heap.size A2 (toBs lc)) (hn : la.length ≤ 1000000) (hn2 : lc.length ≤ 1000000) (h1 : -9223372036854775808 ≤ n) (h2 : n ≤ 9223372036854775807) :
    Calls Tryz.prog 64 #[.slice A la.length cap, .slice A2 lc.length cap2, .int .i64 n] w fun e w' => e = .returned (.bool (atB la lc n)) ∧ Below w.heap.size w w' := by
  by_cases hneg : n < 0
  · have hr : atB la lc n = false := by simp [atB]; omega
    rw [hr]
    clear hs ht
    go_enter Tryz.func64, Tryz.ntmps64
    go_wp2
    go_ret
    exact ⟨rfl, Below.refl _ _⟩
  · by_cases hbig : (la.length : Int) - n < lc.length
    · have hr : atB la lc n = false := by simp [atB]; omega
      rw [hr]
      clear hs ht
      go_enter Tryz.func64, Tryz.ntmps64
      go_wp2
      go_ret
      exact ⟨rfl, Below.refl _ _⟩
    · obtain ⟨a, rfl⟩ : ∃ a : Nat, n = (a : Int) := ⟨n.toNat, by omega⟩
      have hal : a + lc.length ≤ la.length := by omega
      have HS := Lib.hid hs
      have HT := Lib.hid ht
      clear hs ht
      go_enter Tryz.func64, Tryz.ntmps64
      go_wp2
      go_loopw [7] (fun i wr => ∃ k : Nat, k ≤ lc.length ∧ i = .int .i64 (k : Int) ∧ Hid (∀ j (hj : j < lc.length), j < k → la[a + j]'(by omega) = lc[j]) ∧ Below w.heap.size w wr) (fun i _ => lc.length - (intOf i).toNat)
      case atStart => exact ⟨0, Nat.zero_le _, rfl, fun j _ h => absurd h (by omega), Below.refl _ _⟩
      case round =>
        obtain ⟨k, hk, rfl, hall, hb⟩ := hrel
        by_cases hlt : k < lc.length
        · obtain ⟨g, off, rfl, hg, hc⟩ := (HS.out.below hb).at_ (k := a + k) (by rw [toBs_len]; omega)
          obtain ⟨g2, off2, rfl, hg2, hc2⟩ := (HT.out.below hb).at_ (k := k) (by rw [toBs_len]; omega)
          have e1 : (toBs la)[a + k]'(by rw [toBs_len]; omega) = toB (la[a + k]'(by omega)) := by simp [toBs]
          have e2 : (toBs lc)[k]'(by rw [toBs_len]; omega) = toB lc[k] := by simp [toBs]
          rw [e1] at hc
          rw [e2] at hc2
          have c1 : ((a : Int) + (k : Int)) < (la.length : Int) := by omega
          have c2 : 0 ≤ (a : Int) + (k : Int) := by omega
          by_cases he : la[a + k]'(by omega) = lc[k]
          · have hall2 : Hid (∀ j (hj : j < lc.length), j < k + 1 → la[a + j]'(by omega) = lc[j]) := by
              intro j hj hjk
              by_cases h : j = k
              · subst h; exact he
              · exact hall.out j hj (by omega)
            rw [he] at hc
            generalize toB lc[k] = t at *
            clear hall he e1 e2
            go_wp2
            go_quiet (fail)
            go_wp2
            go_roundw
            case rel => exact ⟨k + 1, by omega, by go_num, hall2, below_drewN hb _⟩
            case measure => simp [intOf]; omega
          · have hno : Hid (atB la lc a = false) := atB_no hlt (by omega) he
            have hne : ((toB (la[a + k]'(by omega))).toList == (toB lc[k]).toList) = false := by
              rw [beq_eq_false_iff_ne, toList_eq, toList_eq, of_toB, of_toB]
              exact he
            generalize toB lc[k] = t at *
            generalize toB (la[a + k]'(by omega)) = t2 at *
            clear hall he e1 e2
            go_wp2
            go_quiet (fail)
            go_wp2
            go_ret
            rw [hno.out]
            exact ⟨rfl, below_drewN hb _⟩
        · have hk2 : k = lc.length := by omega
          subst hk2
          have hyes : Hid (atB la lc a = true) := atB_yes hal fun j hj => hall.out j hj hj
          clear hall
          go_wp2
          go_ret
          rw [hyes.out]
          exact ⟨rfl, hb⟩
end Go.Proofs.YtaepfahpbnpeiaaGreatDoor
namespace Go.Proofs.YtaepfahpbnpeiaaGreatDoor
open Go.RowKit
set_option linter.unusedVariables false

/-- unicode/utf8's two tables lie in their variables. -/
def Tabs (w : World) : Prop := Lib.Utf8Tabs 0 1 w
theorem cell_lt {w : World} {b o : Nat} {v : Value} (h : w.cell? ⟨b, o, none⟩ = some v) : b < w.heap.size := by
  unfold World.cell? at h
  rcases Nat.lt_or_ge b w.heap.size with h1 | h1
  · exact h1
  · rw [Array.getElem?_eq_none h1] at h
    simp at h
theorem Tabs.on {w w' : World} (h : Tabs w) (hb : Below w.heap.size w w') : Tabs w' :=
  ⟨fun c hc => (hb.cell (p := ⟨_, c, none⟩) (cell_lt (h.1 c hc))).trans (h.1 c hc),
   fun i hi => ⟨(hb.cell (p := ⟨_, 2 * i, none⟩) (cell_lt (h.2 i hi).1)).trans (h.2 i hi).1, (hb.cell (p := ⟨_, 2 * i + 1, none⟩) (cell_lt (h.2 i hi).2)).trans (h.2 i hi).2⟩⟩

theorem decode_tail (s : ByteArray) (i : Nat) (h : i < s.size) (w : World) (hT : Tabs w) :
    Calls Tryz.prog 67 #[.string (s.extract i s.size)] w fun e w' => e = .returned (.tuple #[.int .i32 (Utf8.decode s i).1, .int .i64 (Utf8.decode s i).2]) ∧ Below w.heap.size w w' := by
  have h1 := Tryz.utf8_DecodeRuneInString (s.extract i s.size) w hT
  rw [decodeGo_tail s i h] at h1
  exact h1

set_option maxRecDepth 100000 in
theorem refline_any (s : ByteArray) (w : World) (hs : s.size ≤ 9223372036854775807) (hT : Tabs w) :
    Calls Tryz.prog 41 #[.string s] w fun e w' => e = .returned (.bool (lineB s)) ∧ Below w.heap.size w w' := by
  by_cases h2 : 200 < s.size
  · have hr : lineB s = false := by simp [lineB]; omega
    rw [hr]
    go_enter Tryz.func41, Tryz.ntmps41
    go_wp2
    go_ret
    exact ⟨rfl, Below.refl _ _⟩
  · have hr : Hid (lineB s = runes s 0) := by show _ = _; simp [lineB]; omega
    have HT := Lib.hid hT
    clear hT
    go_enter Tryz.func41, Tryz.ntmps41
    go_wp2
    go_loopw [3] (fun i wr => ∃ k : Nat, k ≤ s.size + 4 ∧ i = .int .i64 (k : Int) ∧ Hid (runes s 0 = runes s k) ∧ Below w.heap.size w wr) (fun i _ => s.size - (intOf i).toNat)
    case atStart => exact ⟨0, Nat.zero_le _, rfl, rfl, Below.refl _ _⟩
    case round =>
      obtain ⟨k, hk, rfl, heq, hb⟩ := hrel
      by_cases hlt : k < s.size
      · have hc := Lib.hid (decode_tail s k hlt wr (HT.out.on hb))
        have hp := decode_pos s k
        have hp2 := decode_le s k
        have hp3 := decode_rune s k
        have hg := runes_good (s := s) (i := k) hlt
        have hbad := runes_bad (s := s) (i := k) hlt
        obtain ⟨r, n, hd⟩ : ∃ r n, Utf8.decode s k = (r, n) := ⟨_, _, rfl⟩
        rw [hd] at hc hp hp2 hp3 hg hbad
        simp only at hc hp hp2 hp3 hg
        clear hd
        cases hbr : badRune (r, n) with
        | true =>
          have hno : Hid (lineB s = false) := by show _ = _; rw [hr.out, heq.out]; exact hbad hbr
          clear hg hbad heq hr
          have hbc : (r = 65533 ∧ n = 1) ∨ (r < 32 ∧ r ≠ 9) := by simpa [badRune] using hbr
          clear hbr
          rcases hbc with ⟨rfl, rfl⟩ | ⟨b1, b2⟩
          · go_wp2_with (go_at_call 67; refine hc.out.mono ?_; rintro e w1 ⟨rfl, hb1⟩)
            go_ret
            rw [hno.out]
            exact ⟨rfl, hb.trans (hb1.mono hb.size)⟩
          · have q1 : ((r : Int) == 65533) = false := by rw [beq_eq_false_iff_ne]; omega
            have q2 : (r : Int) < 32 := by omega
            have q3 : ((r : Int) != 9) = true := by simp; omega
            go_wp2_with (go_at_call 67; refine hc.out.mono ?_; rintro e w1 ⟨rfl, hb1⟩)
            go_ret
            rw [hno.out]
            exact ⟨rfl, hb.trans (hb1.mono hb.size)⟩
        | false =>
          have hok : Hid (runes s 0 = runes s (k + n)) := by show _ = _; rw [heq.out]; exact hg hbr
          clear hg hbad heq
          have hgc : ¬ (r = 65533 ∧ n = 1) ∧ ¬ (r < 32 ∧ r ≠ 9) := by
            have := hbr
            simp [badRune] at this
            omega
          clear hbr
          obtain ⟨g1, g2⟩ := hgc
          by_cases e1 : r = 65533
          · subst e1
            have q2 : ((n : Int) == 1) = false := by rw [beq_eq_false_iff_ne]; omega
            go_wp2_with (go_at_call 67; refine hc.out.mono ?_; rintro e w1 ⟨rfl, hb1⟩)
            have hb2 := hb.trans (hb1.mono hb.size)
            go_roundw
            case rel => exact ⟨k + n, by omega, by go_num, hok, hb2⟩
            case measure => simp [intOf]; omega
          · have q1 : ((r : Int) == 65533) = false := by rw [beq_eq_false_iff_ne]; omega
            by_cases e2 : r = 9
            · subst e2
              go_wp2_with (go_at_call 67; refine hc.out.mono ?_; rintro e w1 ⟨rfl, hb1⟩)
              have hb2 := hb.trans (hb1.mono hb.size)
              go_roundw
              case rel => exact ⟨k + n, by omega, by go_num, hok, hb2⟩
              case measure => simp [intOf]; omega
            · have q2 : ¬ (r : Int) < 32 := by omega
              go_wp2_with (go_at_call 67; refine hc.out.mono ?_; rintro e w1 ⟨rfl, hb1⟩)
              have hb2 := hb.trans (hb1.mono hb.size)
              go_roundw
              case rel => exact ⟨k + n, by omega, by go_num, hok, hb2⟩
              case measure => simp [intOf]; omega
      · have hfin : Hid (lineB s = true) := by show _ = _; rw [hr.out, heq.out]; exact runes_end hlt
        clear heq hr
        go_wp2
        go_ret
        rw [hfin.out]
        exact ⟨rfl, hb⟩

set_option maxRecDepth 100000 in
theorem refcheck_any (A : Option Addr) (ss : List ByteArray) (cap : Nat) (w : World) (hs : Strs w w.heap.size A ss) (hn : ss.length ≤ 9223372036854775807) (hz : ∀ s ∈ ss, s.size ≤ 9223372036854775807) (hT : Tabs w) :
    Calls Tryz.prog 19 #[.slice A ss.length cap] w fun e w' => e = .returned (.int .i64 (checkN ss)) ∧ Below w.heap.size w w' := by
  by_cases h2 : 2000 < ss.length
  · rw [checkN_big h2]
    go_enter Tryz.func19, Tryz.ntmps19
    go_wp2
    go_ret
    exact ⟨rfl, Below.refl _ _⟩
  · have HT := Lib.hid hT
    have HS := Lib.hid hs
    have HZ := Lib.hid hz
    clear hT hs hz
    go_enter Tryz.func19, Tryz.ntmps19
    go_wp2
    go_loopw [3] (fun i wr => ∃ k : Nat, k ≤ ss.length ∧ i = .int .i64 (k : Int) ∧ Hid (∀ j (hj : j < ss.length), j < k → lineB ss[j] = true) ∧ Below w.heap.size w wr) (fun i _ => ss.length - (intOf i).toNat)
    case atStart => exact ⟨0, Nat.zero_le _, rfl, fun j _ h => absurd h (by omega), Below.refl _ _⟩
    case round =>
      obtain ⟨k, hk, rfl, hall, hb⟩ := hrel
      by_cases hlt : k < ss.length
      · obtain ⟨g, off, rfl, hg, hc⟩ := (HS.out.below hb).at_ hlt
        have hl := Lib.hid (refline_any ss[k] wr (HZ.out _ (List.getElem_mem _)) (HT.out.on hb))
        cases hx : lineB ss[k] with
        | true =>
          have hall2 : Hid (∀ j (hj : j < ss.length), j < k + 1 → lineB ss[j] = true) := by
            intro j hj hjk
            by_cases h : j = k
            · subst h; exact hx
            · exact hall.out j hj (by omega)
          rw [hx] at hl
          generalize ss[k] = s at *
          clear hall hx
          go_wp2_with (go_at_call 41; refine hl.out.mono ?_; rintro e w1 ⟨rfl, hb1⟩)
          have hb2 := hb.trans (hb1.mono hb.size)
          go_roundw
          case rel => exact ⟨k + 1, by omega, by go_num, hall2, hb2⟩
          case measure => simp [intOf]; omega
        | false =>
          have hno : Hid (checkN ss = 6) := checkN_bad h2 hlt hx
          rw [hx] at hl
          generalize ss[k] = s at *
          clear hall hx
          go_wp2_with (go_at_call 41; refine hl.out.mono ?_; rintro e w1 ⟨rfl, hb1⟩)
          go_ret
          rw [hno.out]
          exact ⟨rfl, hb.trans (hb1.mono hb.size)⟩
      · have hk2 : k = ss.length := by omega
        subst hk2
        have hyes : Hid (checkN ss = 0) := checkN_ok h2 fun j hj => hall.out j hj hj
        clear hall
        go_wp2
        go_ret
        rw [hyes.out]
        exact ⟨rfl, hb⟩

theorem text_app (l : List UInt8) (s : ByteArray) : (toB l ++ s ++ ⟨#[10]⟩ : ByteArray) = toB (l ++ s.data.toList ++ [10]) := by
  apply ByteArray.ext
  simp [toB]
theorem textL_le (ls : List (List UInt8)) (k : Nat) : (textL (ls.take k)).length ≤ (textL ls).length := by
  have h : textL ls = textL (ls.take k) ++ textL (ls.drop k) := by
    simp only [textL, ← List.flatten_append, ← List.map_append, List.take_append_drop]
  rw [h]; simp
theorem lists_take1 (ss : List ByteArray) (k : Nat) (h : k < ss.length) : lists (ss.take (k + 1)) = lists (ss.take k) ++ [ss[k].data.toList] := by
  rw [List.take_succ_eq_append_getElem h, lists, List.map_append]; rfl
theorem lists_take0 (ss : List ByteArray) (k : Nat) : lists (ss.take k) = (lists ss).take k := by simp [lists, List.map_take]
theorem toB_sizeL (l : List UInt8) : (toB l).size = l.length := by simp [toB, ByteArray.size]

/-- A part of a text. -/
theorem extract_toB (s : ByteArray) (i j : Nat) : s.extract i j = toB ((s.data.toList.drop i).take (j - i)) := by
  apply ByteArray.ext
  rw [ByteArray.data_extract]
  apply Array.ext'
  simp [toB, Array.toList_extract, List.extract_eq_take_drop]
theorem drop_cons (s : ByteArray) (k : Nat) (h : k < s.size) : s.data.toList.drop k = s[k] :: s.data.toList.drop (k + 1) := by
  rw [List.drop_eq_getElem_cons (by simpa using h)]
  rfl
theorem cur_snoc (s : ByteArray) (a k : Nat) (hak : a ≤ k) (h : k < s.size) : (s.data.toList.drop a).take (k + 1 - a) = (s.data.toList.drop a).take (k - a) ++ [s[k]] := by
  rw [show k + 1 - a = (k - a) + 1 by omega, List.take_succ_eq_append_getElem (by simp; omega)]
  congr 2
  simp [show a + (k - a) = k by omega]
  rfl

end Go.Proofs.YtaepfahpbnpeiaaGreatDoor
