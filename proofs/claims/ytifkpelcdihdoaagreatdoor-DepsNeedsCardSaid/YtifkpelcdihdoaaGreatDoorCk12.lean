/- What patches hang on, plainly. Rows of patches: a whole patch read out of a row's middle; rows that come back. What package deps' calls are to do. Light of layer 14. slices.Contains of strings. name.Set: the texts as a set, in a row of its own. name.among: a function that asks a set; slices.DeleteFunc over a row that the call owns. name.Minus, Both, Within, Has, Same. -/
import Derived.Test.YtifkpelcdihdoaaGreatDoorProg
import Derived.WalkKit
import Derived.WalkSpells
import Derived.Handy
import Derived.Lib.Hide
import Derived.Shelf.Strings.BuilderK
import Derived.BigQuiet
import Derived.Deep.QuietTactic
import Derived.Lib.AtoiAllCases
import Derived.Lib.ItoaMem
import Derived.Test.YtifkpelcdihdoaaGreatDoorShelf
import Derived.Deep.RegionHeld3
import Derived.Deep.CutRange
import Derived.Lib.AppendIntMem
import Derived.BigRegion
import Derived.Deep.RegionWith
import Derived.Lib.QuietBelow
import Derived.Deep.MidRow
import Derived.Deep.RegionHeld
import Derived.Sort.OwnSorted
import Derived.Deep.LoopGhost
import Derived.Test.YtifkpelcdihdoaaGreatDoorCk11
namespace Go.Proofs.YtifkpelcdihdoaaGreatDoor
open Go.RowKit
set_option linter.unusedVariables false

def namesD (l : List PatK) : List (List UInt8) := l.map PatK.name
/-- These names, and what the patches that have them hang on. -/
def gatherD (l : List PatK) (ns : List (List UInt8)) : List (List UInt8) := ns ++ (l.filter fun p => decide (p.name ∈ ns)).flatMap PatK.deps
def allD (l : List PatK) (ns : List (List UInt8)) : List (List UInt8) := setS (gatherD l ns)
/-- Has a patch one of these names, or does it hang on one? -/
def onD (ns : List (List UInt8)) (p : PatK) : Bool := decide (p.name ∈ ns) || ns.any fun n => decide (n ∈ p.deps)
def usersD (l : List PatK) (ns : List (List UInt8)) : List (List UInt8) := setS ((l.filter (onD ns)).map PatK.name)
def pickD (l : List PatK) (ns : List (List UInt8)) : List PatK := l.filter fun p => decide (p.name ∈ ns)
/-- Are all of these names of patches? -/
def theirD (l : List PatK) (ns : List (List UInt8)) : Bool := ns.all fun n => decide (n ∈ namesD l)
theorem gather_take (l : List PatK) (ns : List (List UInt8)) (k : Nat) (hk : k < l.length) : (((l.take (k + 1)).filter fun p => decide (p.name ∈ ns)).flatMap PatK.deps) = (((l.take k).filter fun p => decide (p.name ∈ ns)).flatMap PatK.deps) ++ (if l[k].name ∈ ns then l[k].deps else []) := by
  rw [List.take_succ_eq_append_getElem hk, List.filter_append, List.flatMap_append]
  congr 1
  by_cases h : l[k].name ∈ ns
  · simp [h]
  · simp [h]
theorem pick_take (l : List PatK) (ns : List (List UInt8)) (k : Nat) (hk : k < l.length) : pickD (l.take (k + 1)) ns = pickD (l.take k) ns ++ (if l[k].name ∈ ns then [l[k]] else []) := by
  unfold pickD
  rw [List.take_succ_eq_append_getElem hk, List.filter_append]
  congr 1
  by_cases h : l[k].name ∈ ns
  · simp [h]
  · simp [h]
theorem users_take (l : List PatK) (ns : List (List UInt8)) (k : Nat) (hk : k < l.length) : ((l.take (k + 1)).filter (onD ns)).map PatK.name = ((l.take k).filter (onD ns)).map PatK.name ++ (if onD ns l[k] then [l[k].name] else []) := by
  rw [List.take_succ_eq_append_getElem hk, List.filter_append, List.map_append]
  congr 1
  by_cases h : onD ns l[k] = true
  · simp [h]
  · simp [h]
/-- Has the second list all that the first one has? -/
def withinD (a b : List (List UInt8)) : Bool := a.all fun n => decide (n ∈ b)
theorem their_within (l : List PatK) (ns : List (List UInt8)) : theirD l ns = withinD ns (namesD l) := rfl
theorem names_take (l : List PatK) (k : Nat) (hk : k < l.length) : namesD (l.take (k + 1)) = namesD (l.take k) ++ [l[k].name] := by
  unfold namesD
  rw [List.take_succ_eq_append_getElem hk, List.map_append]
  rfl
theorem within_no {a b : List (List UInt8)} {k : Nat} (hk : k < a.length) (h : a[k] ∉ b) : withinD a b = false := by
  unfold withinD
  rw [List.all_eq_false]
  exact ⟨a[k], List.getElem_mem _, by simpa using h⟩
theorem within_yes {a b : List (List UInt8)} (h : ∀ k (hk : k < a.length), a[k] ∈ b) : withinD a b = true := by
  unfold withinD
  rw [List.all_eq_true]
  intro x hx
  obtain ⟨k, hk, rfl⟩ := List.getElem_of_mem hx
  simpa using h k hk
theorem gather_few (l : List PatK) (ns : List (List UInt8)) (n : Nat) (h : ∀ p ∈ l, p.deps.length ≤ n) : ((l.filter fun p => decide (p.name ∈ ns)).flatMap PatK.deps).length ≤ n * l.length := by
  induction l with
  | nil => simp
  | cons p l ih =>
    have h1 := ih fun q hq => h q (List.mem_cons_of_mem _ hq)
    have h2 := h p (by simp)
    rw [List.length_cons, Nat.mul_succ]
    by_cases e : p.name ∈ ns
    · rw [List.filter_cons_of_pos (by simpa using e), List.flatMap_cons, List.length_append]
      omega
    · rw [List.filter_cons_of_neg (by simpa using e)]
      omega
theorem pick_few (l : List PatK) (ns : List (List UInt8)) : (pickD l ns).length ≤ l.length := List.length_filter_le _ _
/-- The names asked for so far, in a patch's deps. -/
theorem on_take (ns d : List (List UInt8)) (k : Nat) (hk : k < ns.length) : ((ns.take (k + 1)).any fun n => decide (n ∈ d)) = (((ns.take k).any fun n => decide (n ∈ d)) || decide (ns[k] ∈ d)) := by
  rw [List.take_succ_eq_append_getElem hk, List.any_append]
  simp
end Go.Proofs.YtifkpelcdihdoaaGreatDoor
namespace Go.Proofs.YtifkpelcdihdoaaGreatDoor
open Go.RowKit
set_option linter.unusedVariables false

theorem elem_pats : Tryz.prog.elem 22 = 35 := by kernel_rfl
theorem pats_und : Tryz.prog.underlying 22 = some (.slice (Tryz.prog.elem 22)) := by
  rw [elem_pats]
  exact Tryz.underlying22
theorem sized_pat3 : (Tryz.prog.info? 35).map (·.size) = some 3 := by kernel_rfl
theorem size_pat3 (W : World) : (sizeOf 35).run Tryz.prog W = .ok 3 W := by
  cases h : Tryz.prog.info? 35 with
  | some i =>
    have h2 := sized_pat3
    rw [h] at h2
    simp only [Option.map_some, Option.some.injEq] at h2
    simp [sizeOf, typeInfo, h, h2, Sem.run_bind]
  | none => exact absurd h (by have h2 : (Tryz.prog.info? 35).isSome = true := by kernel_rfl
                               intro h3; rw [h3] at h2; cases h2)
theorem pat_indexAt {A : Option Addr} {b off n c k : Nat} (e : A = some ⟨b, off, none⟩) (hk : k < n) (W : World) : (Instr.indexAt 22 (.slice A n c) (.int .i64 (k : Int))).run Tryz.prog W = .ok (.pointer (some ⟨b, off + k * 3, none⟩)) W := by
  subst e
  rw [run_indexAt_slice (h := pats_und), if_pos (by omega), elem_pats, size_pat3, Result.andThen_ok]
  have e2 : (⟨b, off, none⟩ : Addr).add ((k : Int).toNat * 3) = ⟨b, off + k * 3, none⟩ := by unfold Addr.add; split <;> simp_all
  rw [e2]
theorem pat_rng {w : World} {b o k : Nat} {x : Ptm} (h : ∀ (r : Nat) (u : Value), (patR.enc x)[r]? = some u → w.cell? ⟨b, o + k * patR.k + r, none⟩ = some u) : w.rangeAt b (o + k * 3) x.cells := fun j v hv => h j v hv
theorem wpList_load_patr {ops : Array Oper} {rest : List Oper} {op : Oper} {a : Act} {w : World} {Q : Exit → Act → World → Prop} (x : Operand) (b o : Nat) (z : Ptm) (hz : w.rangeAt b o z.cells) (ho : op.op = .load 35 x) (hw : Region.wanted op (yielded ops a.tmps) = true)
    (hx : a.eval x = .pointer (some ⟨b, o, none⟩)) (h : wpList Tryz.prog ops Q rest (a.put op.dst z.val) w) : wpList Tryz.prog ops Q (op :: rest) a w :=
  wpList_step fun K hK => by
    simp only [hw, if_true]
    exact wp_load_mid 35 x ho b o hx z.cells _ hz Tryz.underlying35 rfl (by kernel_rfl) (hK _ _ h)
theorem wpList_load_patw {ops : Array Oper} {rest : List Oper} {op : Oper} {a : Act} {w : World} {Q : Exit → Act → World → Prop} (x : Operand) (b o : Nat) (z : Ptm) (hz : w.rangeAt b o z.cells) (ho : op.op = .load 35 x) (hw : Region.wanted op (yielded ops a.tmps) = true)
    (hx : a.eval x = .pointer (some ⟨b, o, none⟩)) (h : wpList Tryz.prog ops Q rest (a.put op.dst (.agg #[.string z.name, .slice z.a1 z.deps.length z.c1, .slice z.a2 z.ops.length z.c2])) w) : wpList Tryz.prog ops Q (op :: rest) a w :=
  wpList_load_patr x b o z hz ho hw hx h
theorem yields_load_patr {ops : Array Oper} {S : World → Prop} {o : Oper} {a : Act} (hw : Region.wanted o (yielded ops a.tmps) = true) (x : Operand) (ho : o.op = .load 35 x) (b off : Nat) (z : Ptm) (hx : a.eval x = .pointer (some ⟨b, off, none⟩)) (hz : ∀ W, S W → W.rangeAt b off z.cells) :
    YieldsIf Tryz.prog ops S o (.agg #[.string z.name, .slice z.a1 z.deps.length z.c1, .slice z.a2 z.ops.length z.c2]) a :=
  yieldsIf_load_mid hw 35 x ho b off hx z.cells _ hz Tryz.underlying35 rfl (by kernel_rfl)
theorem range_on {w w' : World} {b o : Nat} {cs : List Value} (h : w.rangeAt b o cs) (hb : Below w.heap.size w w') : w'.rangeAt b o cs := fun j v hv => cell_on (h j v hv) hb
/-- A row of patches comes back. -/
def PatsLeft (w : World) (ks : List PatK) (e : Ending) (w' : World) : Prop :=
  ∃ (A : Option Addr) (cap : Nat) (l : List Ptm), e = .returned (.slice A l.length cap) ∧ pkeys l = ks ∧ Room A l.length cap ∧ Pats w' w'.heap.size A l ∧ (∀ x ∈ l, OpsFew x.ops) ∧ Below w.heap.size w w'
theorem Pats.ok {w : World} {B : Nat} {A : Option Addr} {l : List Ptm} (h : Pats w B A l) {k : Nat} (hk : k < l.length) : l[k].Ok w B := h.2 _ (List.getElem_mem hk)
end Go.Proofs.YtifkpelcdihdoaaGreatDoor
namespace Go.Proofs.YtifkpelcdihdoaaGreatDoor
open Go.RowKit
set_option linter.unusedVariables false

/-- Light patches that lie in a row. -/
structure DepIn (w : World) (A : Option Addr) (l : List Ptm) (cap : Nat) : Prop where
  pats : Pats w w.heap.size A l
  room : Room A l.length cap
  few : l.length ≤ 20
  lt : ∀ x ∈ l, x.Lt
  inn : ∀ x ∈ l, x.In
  tabs : Tabs w
theorem DepIn.on {w w' : World} {A : Option Addr} {l : List Ptm} {cap : Nat} (h : DepIn w A l cap) (hb : Below w.heap.size w w') : DepIn w' A l cap :=
  ⟨h.pats.on hb, h.room, h.few, h.lt, h.inn, Tabs.on h.tabs hb⟩
/-- A few names that lie in a row. -/
structure NamIn (w : World) (A : Option Addr) (ns : List (List UInt8)) (cap : Nat) : Prop where
  strs : Strs w w.heap.size A (toBs ns)
  room : Room A ns.length cap
  few : ns.length ≤ 20
  short : ∀ n ∈ ns, n.length ≤ 100
theorem NamIn.on {w w' : World} {A : Option Addr} {ns : List (List UInt8)} {cap : Nat} (h : NamIn w A ns cap) (hb : Below w.heap.size w w') : NamIn w' A ns cap :=
  ⟨h.strs.on hb, h.room, h.few, h.short⟩
/-- The patches of the statements' awake: b, that hangs on a; a. -/
def awA : PatK := ⟨[97], [], []⟩
def awB : PatK := ⟨[98], [[97]], []⟩
/-- A row of strings and an error come back: the row, or none. -/
def ToldW (w : World) (ls : List (List UInt8)) (er : Int) (e : Ending) (w' : World) : Prop :=
  ∃ A cap l, e = .returned (.tuple #[.slice A (List.length (α := List UInt8) l) cap, .int .i64 er]) ∧ ((er = 0 → l = ls) ∧ (er ≠ 0 → l = [])) ∧ Strs w' w'.heap.size A (toBs l) ∧ Below w.heap.size w w'
/-- Package deps, of light patches; what awake alone asks, of its two patches. -/
structure DepC : Prop where
  need : ∀ (A : Option Addr) (l : List Ptm) (c : Nat) (B : Option Addr) (ns : List (List UInt8)) (d : Nat) (w : World), DepIn w A l c → NamIn w B ns d → Calls Tryz.prog 6 #[.slice A l.length c, .slice B ns.length d] w (ToldW w (allD (pkeys l) ns) (if theirD (pkeys l) ns then 0 else 9))
  all_ : ∀ (A : Option Addr) (l : List Ptm) (c : Nat) (B : Option Addr) (ns : List (List UInt8)) (d : Nat) (w : World), DepIn w A l c → NamIn w B ns d → Calls Tryz.prog 12 #[.slice A l.length c, .slice B ns.length d] w (RowLeft w (allD (pkeys l) ns))
  users : ∀ (A : Option Addr) (l : List Ptm) (c : Nat) (B : Option Addr) (ns : List (List UInt8)) (d : Nat) (w : World), DepIn w A l c → NamIn w B ns d → Calls Tryz.prog 13 #[.slice A l.length c, .slice B ns.length d] w (RowLeft w (usersD (pkeys l) ns))
  pick : ∀ (A : Option Addr) (l : List Ptm) (c : Nat) (B : Option Addr) (ns : List (List UInt8)) (d : Nat) (w : World), DepIn w A l c → NamIn w B ns d → Calls Tryz.prog 16 #[.slice A l.length c, .slice B ns.length d] w (PatsLeft w (pickD (pkeys l) ns))
  order : ∀ (A : Option Addr) (l : List Ptm) (c : Nat) (w : World), DepIn w A l c → pkeys l = [awB, awA] → Calls Tryz.prog 19 #[.slice A l.length c] w (PatsLeft w [awA, awB])
  check : ∀ (A : Option Addr) (l : List Ptm) (c : Nat) (w : World), DepIn w A l c → pkeys l = [awB, awA] → Calls Tryz.prog 20 #[.slice A l.length c] w fun e w' => e = .returned (.int .i64 0) ∧ Below w.heap.size w w'
  ordered : ∀ (A : Option Addr) (l : List Ptm) (c : Nat) (w : World), DepIn w A l c → pkeys l = [awB, awA] → Calls Tryz.prog 21 #[.slice A l.length c] w fun e w' => e = .returned (.bool false) ∧ Below w.heap.size w w'
  names : ∀ (A : Option Addr) (l : List Ptm) (c : Nat) (w : World), DepIn w A l c → pkeys l = [awB, awA] → Calls Tryz.prog 23 #[.slice A l.length c] w (RowLeft w [[97], [98]])
  beside : ∀ (x y : Ptm) (w : World), x.Ok w w.heap.size → y.Ok w w.heap.size → x.key = awA → y.key = awB → Calls Tryz.prog 22 #[x.val, y.val] w fun e w' => e = .returned (.bool false) ∧ Below w.heap.size w w'
/-- awake of layer 14. -/
def AwD : Prop := ∀ w : World, Tabs w → Calls Tryz.prog 5 #[] w fun e w' => e = .returned (.bool true) ∧ Below w.heap.size w w'
end Go.Proofs.YtifkpelcdihdoaaGreatDoor
namespace Go.Proofs.YtifkpelcdihdoaaGreatDoor
open Go.RowKit
set_option linter.unusedVariables false

/-- What Light tells of a row of patches. -/
def LightDL (l : List Ptm) (w : World) (e : Ending) (w' : World) : Prop := ∃ r : Bool, e = .returned (.bool r) ∧ Hid (r = true → l.length ≤ 20 ∧ ∀ x ∈ l, x.Lt) ∧ Below w.heap.size w w'
set_option maxHeartbeats 8000000 in
set_option maxRecDepth 100000 in
theorem light14_any (A : Option Addr) (l : List Ptm) (cap : Nat) (w : World) (hs : Pats w w.heap.size A l) (hi : ∀ x ∈ l, x.In) (hn : l.length ≤ 9223372036854775807) :
    Calls Tryz.prog 4 #[.slice A l.length cap] w (LightDL l w) := by
  have HS := Lib.hid hs
  have HI := Lib.hid hi
  clear hs hi
  go_enter Tryz.func4, Tryz.ntmps4
  go_wp2
  go_loopw [3] (fun i wr => ∃ k : Nat, k ≤ l.length ∧ i = .int .i64 (k : Int) ∧ Hid (∀ j (hj : j < l.length), j < k → l[j].Lt) ∧ Hid (Below w.heap.size w wr)) (fun i _ => l.length - (intOf i).toNat)
  case atStart => exact ⟨0, Nat.zero_le _, rfl, fun j _ h => absurd h (by omega), Below.refl _ _⟩
  case round =>
    obtain ⟨k, hk, rfl, hall, hbr⟩ := hrel
    by_cases hlt : k < l.length
    · have hS := HS.out.on hbr.out
      obtain ⟨b, off, eA, _, hc⟩ := hS.1.get hlt
      have OX := Lib.hid (hS.ok hlt)
      have IX := Lib.hid (HI.out _ (List.getElem_mem hlt))
      have HNX : Hid (l[k].Lt → ∀ j (hj : j < l.length), j < k + 1 → l[j].Lt) := fun h j hj hjk => by
        by_cases e : j = k
        · subst e; exact h
        · exact hall.out j hj (by omega)
      have u0 : (0 : Int) ≤ (k : Int) := by omega
      have u1 : (k : Int) < (l.length : Int) := by omega
      have IA := pat_indexAt (c := cap) eA hlt
      clear hS eA hall
      generalize l[k] = x at *
      have RX := Lib.hid (pat_rng hc)
      have CL := Lib.hid (light13_any x wr OX.out IX.out)
      clear hc OX IX
      go_wp2_with ((with_reducible refine wpList_load_patr (.tmp 12) b (off + k * 3) x RX.out ?_ ?_ ?_ ?_); rfl; rfl; rfl; simp only [Act.put, List.setIfInBounds_toArray, List.set_cons_zero, List.set_cons_succ])
      refine CL.out.mono ?_
      rintro e w2 ⟨r, rfl, hl, hb2⟩
      have HB := Lib.hid (hbr.out.trans (hb2.mono hbr.out.size))
      have HL := Lib.hid hl.out
      clear hl hb2 hbr CL RX IA
      cases r
      · clear HNX HL
        go_wp2
        go_ret
        exact ⟨false, rfl, (fun h => by cases h), HB.out⟩
      · have HN := Lib.hid (HNX.out (HL.out rfl))
        clear HNX HL
        go_wp2
        go_roundw
        case rel => exact ⟨k + 1, by omega, by go_num, HN.out, HB.out⟩
        case measure => simp [intOf]; omega
    · obtain rfl : k = l.length := by omega
      have HV : Hid (∀ x ∈ l, x.Lt) := fun x hx => by
        obtain ⟨j, hj, rfl⟩ := List.getElem_of_mem hx
        exact hall.out j hj hj
      have HF : Hid (∀ r : Bool, r = decide ((l.length : Int) ≤ 20) → LightDL l w (.returned (.bool r)) wr) := fun r hr => ⟨r, rfl, fun h => ⟨by rw [hr] at h; have := of_decide_eq_true h; omega, HV.out⟩, hbr.out⟩
      clear hall HV hbr
      go_wp2
      go_ret
      exact HF.out _ rfl
end Go.Proofs.YtifkpelcdihdoaaGreatDoor
namespace Go.Proofs.YtifkpelcdihdoaaGreatDoor
open Go.RowKit
set_option linter.unusedVariables false

theorem contains_eq (ss : List ByteArray) (s : ByteArray) : Lib.containsS ss s = decide (s.data.toList ∈ lists ss) := by
  rw [Bool.eq_iff_iff, Lib.containsS_iff, decide_eq_true_eq, lists, List.mem_map]
  constructor
  · exact fun h => ⟨s, h, rfl⟩
  · rintro ⟨t, ht, e⟩
    rw [← bytes_inj e]
    exact ht

theorem contains_any (A : Option Addr) (ss : List ByteArray) (cap : Nat) (s : ByteArray) (w : World) (hs : Strs w w.heap.size A ss) (hn : ss.length ≤ 1000000) :
    Calls Tryz.prog 71 #[.slice A ss.length cap, .string s] w fun e w' => e = .returned (.bool (decide (s.data.toList ∈ lists ss))) ∧ w' = w := by
  by_cases h0 : 0 < ss.length
  · obtain ⟨b, off, rfl, hb, hc⟩ := hs h0
    have h := Tryz.slices_Contains_string b off ss.length cap ss s w (Nat.le_refl _) (by omega) (fun j hj => by rw [hc j hj]; simp [List.getD_eq_getElem?_getD, List.getElem?_eq_getElem hj])
    rw [List.take_of_length_le (Nat.le_refl _), contains_eq] at h
    exact h
  · obtain rfl : ss = [] := List.length_eq_zero_iff.1 (by omega)
    have h := Tryz.slices_Contains_string_empty A cap s w
    simpa [lists] using h
end Go.Proofs.YtifkpelcdihdoaaGreatDoor
namespace Go.Proofs.YtifkpelcdihdoaaGreatDoor
open Go.RowKit Go.Sort
set_option linter.unusedVariables false

/-- What Set leaves. -/
def SetLeft (w : World) (ls : List (List UInt8)) (e : Ending) (w' : World) : Prop :=
  ∃ v, e = .returned v ∧ OwnS w' w.heap.size v (setS ls) ∧ Below w.heap.size w w'

theorem setLeft_of {w w1 : World} {g cap n nn q : Nat} {os : Array Obj} {ss : List (List UInt8)} (hown : w1.ownsRow w.heap.size 9 1 (.slice (some ⟨g, 0, none⟩) n cap) n (ss.map encStr)) (hbel : Below w.heap.size w w1) (hbg : w.heap.size ≤ g) (hlen : ss.length = n) :
    SetLeft w ss (.returned (.slice (some ⟨g, 0, none⟩) (Lib.compact (ss.mergeSort fun x y => decide (x ≤ y))).length cap))
      (putRow encStr (Sort.ahead (grow (putRow encStr (Sort.ahead w1 nn) g 0 (ss.mergeSort fun x y => decide (x ≤ y)).toArray) os) q) g 0 (Lib.compact (ss.mergeSort fun x y => decide (x ≤ y)) ++ List.replicate (n - (Lib.compact (ss.mergeSort fun x y => decide (x ≤ y))).length) []).toArray) := by
  have hl2 : (ss.mergeSort fun x y => decide (x ≤ y)).length = ss.length := List.length_mergeSort ss
  have hle := Lib.compact_length_le (ss.mergeSort fun x y => decide (x ≤ y))
  subst hlen
  rcases hown.2 with ⟨h0, _⟩ | ⟨g', cap', cur, hv, hbase, hb, h1, h2, h3, h4⟩
  · cases h0
  cases hv
  have hs := ownsRow_sorted (n := nn) (os := os) (ts := ss.mergeSort fun x y => decide (x ≤ y)) hl2 hbase hb h1 h2 h3
  have hc := Lib.ownsRow_putRow (q := q) (k := (Lib.compact (ss.mergeSort fun x y => decide (x ≤ y))).length) (ys := Lib.compact (ss.mergeSort fun x y => decide (x ≤ y)) ++ List.replicate (ss.length - (Lib.compact (ss.mergeSort fun x y => decide (x ≤ y))).length) []) hs (by simp; omega) (by omega)
  rw [List.take_left] at hc
  refine ⟨_, rfl, ?_, Lib.below_putRow (hbel.grown (grownBy_sorted _) hbel.size (fun j hj => by cases hj; exact hbase)) hbg⟩
  unfold OwnS
  rw [← compact_sorted]
  exact hc

set_option maxHeartbeats 2000000 in
set_option maxRecDepth 100000 in
theorem set_tail (n : Nat) (arg : Value) (ss : List (List UInt8)) (w : World) (hn : n ≤ 4611686018427387903)
    (hclone : Calls Tryz.prog 54 #[arg] w fun e w' => ∃ v', e = .returned v' ∧ w'.ownsRow w.heap.size 9 1 v' n (ss.map encStr) ∧ v' ≠ .slice none 0 0 ∧ Below w.heap.size w w') :
    Calls Tryz.prog 50 #[arg] w (SetLeft w ss) := by
  go_enter Tryz.func50, Tryz.ntmps50
  go_wp2_with (first
    | (go_at_call 54; refine hclone.mono ?_; rintro e w1 ⟨v1, rfl, hown, hnn, hbel⟩
       obtain ⟨g, cap, rfl, hbg, hgl, hncap, hcm, hlen, hH⟩ := Lib.holds_of_ownsRow hown hnn
       have hsort := Tryz.slices_Sort_string g 0 cap ss w1 hH hgl (by omega)
       rw [hlen] at hsort
       have X : Aside (w1.ownsRow w.heap.size 9 1 (.slice (some ⟨g, 0, none⟩) n cap) n (ss.map encStr) ∧ Below w.heap.size w w1 ∧ w.heap.size ≤ g ∧ g < w1.heap.size ∧ n ≤ cap ∧ cap ≤ maxLen ∧ ss.length = n ∧ Holds encStr w1 g 0 ss.toArray) := ⟨hown, hbel, hbg, hgl, hncap, hcm, hlen, hH⟩
       clear hown hbel hH hnn)
    | (go_at_call 74; refine hsort.mono ?_; rintro e w2 ⟨rfl, nn, os, rfl⟩
       have hl2 : (ss.mergeSort fun x y => decide (x ≤ y)).length = n := by rw [List.length_mergeSort]; exact X.out.2.2.2.2.2.2.1
       have hH2 : Holds encStr (grow (putRow encStr (Sort.ahead w1 nn) g 0 (ss.mergeSort fun x y => decide (x ≤ y)).toArray) os) g 0 (ss.mergeSort fun x y => decide (x ≤ y)).toArray :=
         holds_grow encStr _ os g 0 _ (by simpa [putRow, mapBlock, Sort.ahead] using X.out.2.2.2.1) (holds_putRow encStr _ g 0 _ _ (holds_ahead encStr w1 nn g 0 _ X.out.2.2.2.2.2.2.2) (by simp))
       have hcomp := Tryz.slices_Compact_string g 0 cap (ss.mergeSort fun x y => decide (x ≤ y)) _ hH2 (by omega) (by have := X.out.2.2.2.2.1; omega)
       rw [hl2] at hcomp
       clear hH2 hsort)
    | (go_at_call 75; refine hcomp.mono ?_; rintro e w3 ⟨rfl, q, rfl⟩))
  go_ret
  exact setLeft_of X.out.1 X.out.2.1 X.out.2.2.1 X.out.2.2.2.2.2.2.1

set_option maxHeartbeats 2000000 in
theorem set_nil (n c : Nat) (w : World) :
    Calls Tryz.prog 50 #[.slice none n c] w fun e w' => e = .returned (.slice none 0 0) ∧ w' = w := by
  go_enter Tryz.func50, Tryz.ntmps50
  go_wp2_with (first
    | (go_at_call 54; refine (Tryz.slices_Clone_string_nil n c _).mono ?_; rintro e w' ⟨rfl, rfl⟩)
    | (go_at_call 74; refine (Tryz.slices_Sort_string_none none 0 _).mono ?_; rintro e w' ⟨rfl, rfl⟩)
    | (go_at_call 75; refine (Tryz.slices_Compact_string_empty none 0 _).mono ?_; rintro e w' ⟨rfl, rfl⟩))
  go_ret
  exact ⟨rfl, rfl⟩

theorem set_any (A : Option Addr) (ss : List ByteArray) (cap : Nat) (w : World) (hs : Strs w w.heap.size A ss) (hn : ss.length ≤ 1000000) :
    Calls Tryz.prog 50 #[.slice A ss.length cap] w (SetLeft w (lists ss)) := by
  by_cases h0 : 0 < ss.length
  · obtain ⟨b, off, rfl, hb, hc⟩ := hs h0
    refine set_tail ss.length _ _ w (by omega) ((Tryz.slices_Clone_string b off ss.length cap ss w (Nat.le_refl _) (by omega) (fun j hj => by rw [hc j hj]; simp [List.getD_eq_getElem?_getD, List.getElem?_eq_getElem hj])).mono ?_)
    rintro e w' ⟨v', he, hown, hnn, hbel⟩
    refine ⟨v', he, ?_, hnn, hbel⟩
    rw [map_enc, List.take_of_length_le (Nat.le_refl _)] at *
    exact hown
  · obtain rfl : ss = [] := List.length_eq_zero_iff.1 (by omega)
    cases A with
    | none =>
      refine (set_nil 0 cap w).mono ?_
      rintro e w' ⟨rfl, rfl⟩
      exact ⟨_, rfl, OwnS.nil _ _, Below.refl _ _⟩
    | some a => exact set_tail 0 _ [] w (by omega) (Tryz.slices_Clone_string_zero a cap w)
end Go.Proofs.YtifkpelcdihdoaaGreatDoor
namespace Go.Proofs.YtifkpelcdihdoaaGreatDoor
open Go.RowKit Go.Sort
set_option linter.unusedVariables false

/-- The halving finds a text in a set just where it is there. -/
theorem search_spec (ls : List (List UInt8)) (hr : Rising ls) (x : ByteArray) (Sx : Nat → ByteArray) (hS : ∀ t, Sx t = if h : t < ls.length then toB ls[t] else x) :
    decide (Lib.bsGo (fun t => Op.bytesLess (Sx t).toList x.toList) ls.length 0 ls.length < ls.length ∧ Sx (Lib.bsGo (fun t => Op.bytesLess (Sx t).toList x.toList) ls.length 0 ls.length) = x) = decide (x.data.toList ∈ ls) := by
  have hget : ∀ i j (hi : i < ls.length) (hj : j < ls.length), i ≤ j → ls[i] ≤ ls[j] := by
    intro i j hi hj hij
    rcases Nat.lt_or_eq_of_le hij with h | h
    · exact List.le_of_lt (List.pairwise_iff_getElem.1 hr i j hi hj h)
    · subst h; exact List.le_refl _
  have hless : ∀ t, Op.bytesLess (Sx t).toList x.toList = decide (∃ h : t < ls.length, ls[t] < x.data.toList) := by
    intro t
    rw [bytesLess_eq, hS t, toList_eq, toList_eq]
    by_cases h : t < ls.length
    · simp [h, of_toB]
    · rw [dif_neg h, decide_eq_decide]
      exact ⟨fun hx => absurd hx (t_irrefl _), fun ⟨hx, _⟩ => absurd hx h⟩
  obtain ⟨k, hk⟩ : ∃ k, k = ls.findIdx (fun y => !decide (y < x.data.toList)) := ⟨_, rfl⟩
  have hkl : k ≤ ls.length := by rw [hk]; exact List.findIdx_le_length
  have h1 : ∀ t, t < k → ∃ h : t < ls.length, ls[t] < x.data.toList := by
    intro t ht
    have := List.not_of_lt_findIdx (p := fun y => !decide (y < x.data.toList)) (xs := ls) (i := t) (by omega)
    exact ⟨by omega, by simpa using this⟩
  have h2 : ∀ t (h : t < ls.length), k ≤ t → ¬ ls[t] < x.data.toList := by
    intro t h hkt hlt
    have hk2 : k < ls.length := by omega
    have := List.findIdx_getElem (p := fun y => !decide (y < x.data.toList)) (xs := ls) (w := by omega)
    simp only [← hk] at this
    have h3 : ¬ ls[k] < x.data.toList := by simpa using this
    exact h3 (t_le_trans (hget k t hk2 h hkt) hlt)
  have hbs : Lib.bsGo (fun t => Op.bytesLess (Sx t).toList x.toList) ls.length 0 ls.length = k := by
    refine Lib.bsGo_spec _ k ?_ ?_ _ 0 _ (by omega) (by omega) hkl
    · intro t ht
      show Op.bytesLess _ _ = true
      rw [hless, decide_eq_true_eq]
      exact h1 t ht
    · intro t ht
      show Op.bytesLess _ _ = false
      rw [hless, decide_eq_false_iff_not]
      rintro ⟨h, hlt⟩
      exact h2 t h ht hlt
  rw [hbs, decide_eq_decide]
  constructor
  · rintro ⟨h, he⟩
    rw [hS k, dif_pos h] at he
    rw [← he, of_toB]
    exact List.getElem_mem h
  · intro hm
    obtain ⟨i, hi, he⟩ := List.getElem_of_mem hm
    have hik : k ≤ i := by
      rcases Nat.lt_or_ge i k with h | h
      · obtain ⟨h', hlt⟩ := h1 i h
        rw [he] at hlt
        exact absurd hlt (t_irrefl _)
      · exact h
    have hk2 : k < ls.length := by omega
    have h3 := h2 k hk2 (Nat.le_refl _)
    have h4 := hget k i hk2 hi hik
    rw [he] at h4
    have h5 : ls[k] = x.data.toList := List.le_antisymm h4 (List.not_lt.1 h3)
    refine ⟨hk2, ?_⟩
    rw [hS k, dif_pos hk2, h5, toB_of]

/-- A variable (block B) holds a slice of a set; both lie in blocks from lo on, below hi. -/
def SetAt (w : World) (lo hi B : Nat) (ls : List (List UInt8)) : Prop :=
  lo ≤ B ∧ B < hi ∧ ∃ A cap, w.cell? ⟨B, 0, none⟩ = some (.slice A ls.length cap) ∧
    (0 < ls.length → ∃ b off, A = some ⟨b, off, none⟩ ∧ lo ≤ b ∧ b < hi ∧ ∀ j (h : j < ls.length), w.cell? ⟨b, off + j, none⟩ = some (.string (toB ls[j])))
theorem SetAt.other {w w' : World} {lo hi B : Nat} {ls : List (List UInt8)} (h : SetAt w lo hi B ls) (hk : ∀ i, lo ≤ i → i < hi → w'.heap[i]? = w.heap[i]?) : SetAt w' lo hi B ls := by
  obtain ⟨h1, h2, A, cap, hc, hr⟩ := h
  have hcell : ∀ b o, lo ≤ b → b < hi → w'.cell? ⟨b, o, none⟩ = w.cell? ⟨b, o, none⟩ := fun b o x y => by simp only [World.cell?, hk b x y]
  refine ⟨h1, h2, A, cap, by rw [hcell B 0 h1 h2]; exact hc, fun hp => ?_⟩
  obtain ⟨b, off, e, hb1, hb2, hcs⟩ := hr hp
  exact ⟨b, off, e, hb1, hb2, fun j hj => by rw [hcell b _ hb1 hb2]; exact hcs j hj⟩
theorem SetAt.below {w w' : World} {lo hi B : Nat} {ls : List (List UInt8)} (h : SetAt w lo hi B ls) (hb : Below w.heap.size w w') (hh : hi ≤ w.heap.size) : SetAt w' lo hi B ls :=
  h.other fun i _ hi2 => hb.block i (by omega)
theorem heap_sortWorld {α : Type} [Inhabited α] (enc : α → Value) (w : World) (blk off n i : Nat) (dk : Array α) (os : Array Obj) (hi : i < w.heap.size) (hne : i ≠ blk) : (sortWorld enc w blk off n dk os).heap[i]? = w.heap[i]? := by
  have h1 : (putRow enc (Sort.ahead w n) blk off dk).heap.size = w.heap.size := by rw [size_putRow]; rfl
  show ((putRow enc (Sort.ahead w n) blk off dk).heap ++ os)[i]? = _
  rw [Array.getElem?_append_left (by rw [h1]; exact hi)]
  simp [putRow, mapBlock, Sort.ahead, Array.getElem?_modify, Ne.symm hne]

set_option maxRecDepth 100000 in
theorem among1_gives (lo hi B : Nat) (ls : List (List UInt8)) (hr : Rising ls) (hn : ls.length ≤ 1000000) (x : ByteArray) (W : World) (h : SetAt W lo hi B ls) :
    Calls Tryz.prog 90 #[.string x, .pointer (some ⟨B, 0, none⟩)] W fun e w' => e = .returned (.bool (decide (x.data.toList ∈ ls))) ∧ ∃ q, w' = W.drewN q := by
  obtain ⟨_, _, A, cap, hc, hrow⟩ := h
  by_cases h0 : 0 < ls.length
  · obtain ⟨b, off, rfl, _, _, hcs⟩ := hrow h0
    obtain ⟨Sx, hS⟩ : ∃ Sx : Nat → ByteArray, ∀ t, Sx t = if h : t < ls.length then toB ls[t] else x := ⟨fun t => if h : t < ls.length then toB ls[t] else x, fun _ => rfl⟩
    have hsp := search_spec ls hr x Sx hS
    have hbs := Any2.slices_BinarySearch_string Tryz.laysBs b off ls.length cap Sx x W (by omega) (fun j hj => by rw [hcs j hj, hS j, dif_pos hj])
    change Calls _ 91 _ _ _ at hbs
    rw [hsp] at hbs
    generalize Lib.bsGo (fun t => Op.bytesLess (Sx t).toList x.toList) ls.length 0 ls.length = k at hbs
    generalize decide (x.data.toList ∈ ls) = r at *
    clear hsp hS hcs hrow
    go_enter Tryz.func90, Tryz.ntmps90
    go_wp2_with (go_at_call 91; refine hbs.mono ?_; rintro e w1 ⟨rfl, q, rfl⟩)
    go_ret
    exact ⟨rfl, q, rfl⟩
  · obtain rfl : ls = [] := List.length_eq_zero_iff.1 (by omega)
    have hbs := Any2.slices_BinarySearch_string_empty Tryz.laysBs A cap x W
    change Calls _ 91 _ _ _ at hbs
    go_enter Tryz.func90, Tryz.ntmps90
    go_wp2_with (go_at_call 91; refine hbs.mono ?_; rintro e w1 ⟨rfl, rfl⟩)
    go_ret
    exact ⟨by simp, 0, rfl⟩

theorem OwnS.setAt {w : World} {B lo hi C : Nat} {v : Value} {ls : List (List UInt8)} (h : OwnS w B v ls) (hB : lo ≤ B) (hh : w.heap.size ≤ hi) (h1 : lo ≤ C) (h2 : C < hi) (hc : w.cell? ⟨C, 0, none⟩ = some v) : SetAt w lo hi C ls := by
  have hlt := World.ownsRow.lt h
  obtain ⟨A, cap, rfl, hs, _, _⟩ := h.strs
  refine ⟨h1, h2, A, cap, hc, fun hp => ?_⟩
  obtain ⟨b, off, rfl, hb, hcs⟩ := hs (by rw [toBs_len]; exact hp)
  have hb2 := hlt b rfl
  exact ⟨b, off, rfl, by omega, by omega, fun j hj => by rw [hcs j (by rw [toBs_len]; exact hj)]; simp [toBs]⟩

/-- What among leaves. -/
def AmongLeft (w : World) (ls : List (List UInt8)) (e : Ending) (w' : World) : Prop :=
  ∃ B, e = .returned (.func (.func 90) #[] #[.pointer (some ⟨B, 0, none⟩)]) ∧ SetAt w' w.heap.size w'.heap.size B (setS ls) ∧ Below w.heap.size w w'
theorem amongLeft_of {w w1 : World} {v : Value} {ls : List (List UInt8)} (hown : OwnS w1 w.heap.size v (setS ls)) (hb : Below w.heap.size w w1) :
    AmongLeft w ls (.returned (.func (.func 90) #[] #[.pointer (some ⟨w1.heap.size, 0, none⟩)])) (w1.alloc (.cells #[v] 23)) := by
  have h2 : OwnS (w1.alloc (.cells #[v] 23)) w.heap.size v (setS ls) := World.ownsRow.alloc hown _
  exact ⟨_, rfl, h2.setAt (Nat.le_refl _) (Nat.le_refl _) hb.size (by simp) (by rw [World.cell?_alloc_new]; rfl), hb.alloc hb.size _⟩

set_option maxRecDepth 100000 in
theorem among_any (A : Option Addr) (ss : List ByteArray) (cap : Nat) (w : World) (hs : Strs w w.heap.size A ss) (hn : ss.length ≤ 1000000) :
    Calls Tryz.prog 73 #[.slice A ss.length cap] w (AmongLeft w (lists ss)) := by
  go_enter Tryz.func73, Tryz.ntmps73
  go_wp2_with fail
  refine (set_any _ _ _ _ hs hn).mono ?_
  rintro e w1 ⟨v, rfl, hown, hb⟩
  obtain ⟨A1, cap1, rfl, hs1, hm1, _⟩ := hown.strs
  have X : Aside (OwnS w1 w.heap.size (.slice A1 (setS (lists ss)).length cap1) (setS (lists ss)) ∧ Below w.heap.size w w1) := ⟨hown, hb⟩
  clear hown hb hs1 hs
  generalize hl : (setS (lists ss)).length = n at *
  go_wp2
  go_ret
  have := amongLeft_of X.out.1 X.out.2
  simpa using this
end Go.Proofs.YtifkpelcdihdoaaGreatDoor
namespace Go.Proofs.YtifkpelcdihdoaaGreatDoor
open Go.RowKit Go.Sort
set_option linter.unusedVariables false

set_option maxRecDepth 100000 in
theorem delete_nil (fv : Value) (w : World) :
    Calls Tryz.prog 72 #[.slice none 0 0, fv] w fun e w' => e = .returned (.slice none 0 0) ∧ w' = w := by
  go_enter Tryz.func72, Tryz.ntmps72
  go_wp2_with (go_at_call 52; refine (Tryz.slices_IndexFunc_empty (α := Nat) none 0 fv _).mono ?_; rintro e w' ⟨rfl, rfl⟩)
  go_ret
  exact ⟨rfl, rfl⟩

theorem putRow_below {B : Nat} {w0 w : World} {g q : Nat} {d : Array (List UInt8)} (h : Below B w0 w) (hg : B ≤ g) : Below B w0 (putRow encStr (Sort.ahead w q) g 0 d) := Lib.below_putRow h hg

theorem delete_own (g : Nat) (lb : Array Value) (eg : ∀ args w, (callFunc g args).run Tryz.prog w = .ok (.enter g args) w) (p : List UInt8 → Bool) (v : Value) (ls : List (List UInt8)) (w0 w : World) (B : Nat)
    (hb : Below B w0 w) (ho : OwnS w B v ls) (hn : ls.length ≤ 1000000) (hp : PredAt Tryz.prog g lb encStr p w) (hpo : ∀ blk, v.ownBlock = some blk → PredOver Tryz.prog g lb encStr p blk 0 ls.length w) :
    Calls Tryz.prog 72 #[v, .func (.func g) #[] lb] w fun e w' => ∃ v', e = .returned v' ∧ OwnS w' B v' (ls.filter fun x => !p x) ∧ Below B w0 w' := by
  by_cases hnil : v = .slice none 0 0
  · subst hnil
    have h0 : ls = [] := by
      rcases ho.2 with ⟨_, h⟩ | ⟨_, _, _, e, _⟩
      · exact List.length_eq_zero_iff.1 h
      · cases e
    subst h0
    refine (delete_nil _ w).mono ?_
    rintro e w' ⟨rfl, rfl⟩
    exact ⟨_, rfl, OwnS.nil _ _, hb⟩
  · obtain ⟨blk, cap, rfl, hbg, hgl, hncap, hcm, hlen, hH⟩ := Lib.holds_of_ownsRow ho hnil
    have h := Tryz.slices_DeleteFunc encStr (fun _ => rfl) p g lb eg [] (fun w => Tryz.zeroValue9 w) blk 0 cap ls.toArray w hp (by have := hpo blk rfl; simpa using this) hH (by simp; omega) (by simpa using hncap)
    have e1 : ls.toArray.size = ls.length := by simp
    rw [e1] at h
    refine h.mono ?_
    rintro e w' ⟨rfl, q, rfl⟩
    have hle : (ls.filter fun x => !p x).length ≤ ls.length := List.length_filter_le _ _
    refine ⟨_, rfl, ?_, putRow_below hb hbg⟩
    have hc := Lib.ownsRow_putRow (q := q) (k := (ls.filter fun x => !p x).length) (ys := (ls.filter fun x => !p x) ++ List.replicate (ls.length - (ls.filter fun x => !p x).length) []) ho (by simp; omega) (by omega)
    rw [List.take_left] at hc
    exact hc

/-- What one of both has, and the other has not: as sets. -/
def minusS (a b : List (List UInt8)) : List (List UInt8) := setS (a.filter fun x => !decide (x ∈ b))
theorem minus_eq (a b : List (List UInt8)) : ((setS a).filter fun x => !decide (x ∈ setS b)) = minusS a b :=
  rising_ext (rising_filter (rising_setS a) _) (rising_setS _) fun z => by simp [minusS, mem_setS]
theorem ins_len (x : List UInt8) : ∀ l, (ins x l).length ≤ l.length + 1
  | [] => by simp [ins]
  | y :: r => by
    have := ins_len x r
    unfold ins
    split
    · simp; omega
    · split <;> simp
theorem setS_len (l : List (List UInt8)) : (setS l).length ≤ l.length := by
  suffices h : ∀ (l a : List (List UInt8)), (l.foldl (fun a x => ins x a) a).length ≤ l.length + a.length by simpa [setS] using h l []
  intro l
  induction l with
  | nil => simp
  | cons x r ih =>
    intro a
    have h1 := ih (ins x a)
    have h2 := ins_len x a
    simp only [List.foldl_cons, List.length_cons]
    omega

theorem enters_among1 : ∀ args w, (callFunc 90 args).run Tryz.prog w = .ok (.enter 90 args) w := enters_of Tryz.func90 (by kernel_rfl) rfl
/-- What a call leaves that hands back a row of its own. -/
def OwnLeft (w : World) (ls : List (List UInt8)) (e : Ending) (w' : World) : Prop :=
  ∃ v, e = .returned v ∧ OwnS w' w.heap.size v ls ∧ Below w.heap.size w w'

theorem minus_delete {w w1 w2 : World} {v : Value} {la lc : List (List UInt8)} {B : Nat} (ho : OwnS w1 w.heap.size v (setS la)) (hb : Below w.heap.size w w1) (hs : SetAt w2 w1.heap.size w2.heap.size B (setS lc)) (hb2 : Below w1.heap.size w1 w2) (ha : la.length ≤ 1000000) (hn : lc.length ≤ 1000000) :
    Calls Tryz.prog 72 #[v, .func (.func 90) #[] #[.pointer (some ⟨B, 0, none⟩)]] w2 (OwnLeft w (minusS la lc)) := by
  have hl := setS_len la
  have hl2 := setS_len lc
  have hlt := World.ownsRow.lt ho
  rw [← minus_eq]
  refine delete_own 90 _ enters_among1 (fun x => decide (x ∈ setS lc)) v (setS la) w w2 w.heap.size (hb.trans (hb2.mono hb.size)) (ho.kept hb2) (by omega) ?_ ?_
  · intro W x hW
    have := among1_gives _ _ B (setS lc) (rising_setS lc) (by omega) (toB x) W (hs.below hW (Nat.le_refl _))
    rw [of_toB] at this
    exact this
  · intro blk hblk n os dk x hd
    have hb3 := hlt blk hblk
    have := among1_gives _ _ B (setS lc) (rising_setS lc) (by omega) (toB x) (sortWorld encStr w2 blk 0 n dk os) (hs.other fun i h1 h2 => heap_sortWorld encStr w2 blk 0 n i dk os h2 (by omega))
    rw [of_toB] at this
    exact this

set_option maxRecDepth 100000 in
theorem minus_any (A A2 : Option Addr) (ss tt : List ByteArray) (cap cap2 : Nat) (w : World) (hs : Strs w w.heap.size A ss) (ht : Strs w w.heap.size A2 tt) (hn : ss.length ≤ 1000000) (hn2 : tt.length ≤ 1000000) :
    Calls Tryz.prog 48 #[.slice A ss.length cap, .slice A2 tt.length cap2] w (OwnLeft w (minusS (lists ss) (lists tt))) := by
  go_enter Tryz.func48, Tryz.ntmps48
  go_wp2_with fail
  refine (set_any _ _ _ _ hs hn).mono ?_
  rintro e w1 ⟨v, rfl, ho, hb⟩
  have ht1 := ht.on hb
  go_wp2_with fail
  refine (among_any _ _ _ _ ht1 hn2).mono ?_
  rintro e w2 ⟨B, rfl, hset, hb2⟩
  have hd := minus_delete ho hb hset hb2 (by rw [lists_len]; exact hn) (by rw [lists_len]; exact hn2)
  clear ho hb hset hb2 hs ht ht1
  go_wp2_with fail
  refine hd.mono ?_
  rintro e w3 ⟨v3, rfl, ho3, hb3⟩
  go_wp2
  go_ret
  exact ⟨_, rfl, ho3, hb3⟩

set_option maxRecDepth 100000 in
theorem has_any (A : Option Addr) (ss : List ByteArray) (cap : Nat) (s : ByteArray) (w : World) (hs : Strs w w.heap.size A ss) (hn : ss.length ≤ 1000000) :
    Calls Tryz.prog 46 #[.slice A ss.length cap, .string s] w fun e w' => e = .returned (.bool (decide (s.data.toList ∈ lists ss))) ∧ w' = w := by
  have h := contains_any A ss cap s w hs hn
  generalize decide (s.data.toList ∈ lists ss) = r at *
  clear hs
  go_enter Tryz.func46, Tryz.ntmps46
  go_wp2_with (go_at_call 71; refine h.mono ?_; rintro e w1 ⟨rfl, rfl⟩)
  go_ret
  exact ⟨rfl, rfl⟩

theorem equal_any (A A2 : Option Addr) (ss tt : List ByteArray) (cap cap2 : Nat) (w : World) (hs : Strs w w.heap.size A ss) (ht : Strs w w.heap.size A2 tt) (hn : ss.length ≤ 1000000) (hn2 : tt.length ≤ 1000000) :
    Calls Tryz.prog 83 #[.slice A ss.length cap, .slice A2 tt.length cap2] w fun e w' => e = .returned (.bool (decide (ss = tt))) ∧ ∃ q, w' = w.drewN q := by
  by_cases hl : ss.length = tt.length
  · by_cases h0 : 0 < ss.length
    · obtain ⟨b, off, rfl, hb, hc⟩ := hs h0
      obtain ⟨b2, off2, rfl, hb2, hc2⟩ := ht (by omega)
      have h := Tryz.slices_Equal_string b off ss.length cap b2 off2 tt.length cap2 ss tt w (Nat.le_refl _) (Nat.le_refl _) (by omega) (by omega) (fun j hj => by rw [hc j hj]; simp [List.getD_eq_getElem?_getD, List.getElem?_eq_getElem hj]) (fun j hj => by rw [hc2 j hj]; simp [List.getD_eq_getElem?_getD, List.getElem?_eq_getElem hj])
      rw [List.take_of_length_le (Nat.le_refl _), List.take_of_length_le (Nat.le_refl _)] at h
      exact h
    · obtain rfl : ss = [] := List.length_eq_zero_iff.1 (by omega)
      obtain rfl : tt = [] := List.length_eq_zero_iff.1 (by simpa using hl.symm)
      refine (Tryz.slices_Equal_string_empty A A2 cap 0 cap2 w (by omega)).mono ?_
      rintro e w' ⟨rfl, rfl⟩
      exact ⟨by simp, 0, rfl⟩
  · refine (Tryz.slices_Equal_string_lens A A2 ss.length cap tt.length cap2 w hl).mono ?_
    rintro e w' ⟨rfl, rfl⟩
    have : ss ≠ tt := fun e => hl (by rw [e])
    exact ⟨by simp [this], 0, rfl⟩

theorem toBs_eq (a b : List (List UInt8)) : decide (toBs a = toBs b) = decide (a = b) := by
  rw [decide_eq_decide]
  exact ⟨fun h => by rw [← lists_toBs a, h, lists_toBs], fun h => by rw [h]⟩

set_option maxRecDepth 100000 in
theorem within_any (A A2 : Option Addr) (ss tt : List ByteArray) (cap cap2 : Nat) (w : World) (hs : Strs w w.heap.size A ss) (ht : Strs w w.heap.size A2 tt) (hn : ss.length ≤ 1000000) (hn2 : tt.length ≤ 1000000) :
    Calls Tryz.prog 24 #[.slice A ss.length cap, .slice A2 tt.length cap2] w fun e w' => e = .returned (.bool (decide ((minusS (lists ss) (lists tt)).length = 0))) ∧ Below w.heap.size w w' := by
  have hm := minus_any A A2 ss tt cap cap2 w hs ht hn hn2
  clear hs ht
  generalize minusS (lists ss) (lists tt) = ls at *
  go_enter Tryz.func24, Tryz.ntmps24
  go_wp2_with fail
  refine hm.mono ?_
  rintro e w1 ⟨v, rfl, ho, hb⟩
  obtain ⟨A1, cap1, rfl, _, _, _⟩ := ho.strs
  clear ho
  go_wp2
  go_ret
  refine ⟨?_, hb⟩
  show Ending.returned (Value.bool ((ls.length : Int) == 0)) = _
  congr 2
  rw [Bool.eq_iff_iff]
  simp
end Go.Proofs.YtifkpelcdihdoaaGreatDoor
