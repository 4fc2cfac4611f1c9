/- Sets of texts, plainly: rising byte by byte, each once. append of strings to a row that the call made. The reference's Same: are two lists of texts the same? Rows of steps that change places, plainly. Rows of steps, plainly: one step that comes to the front, as a row that passes it. Words for rows of steps that change places. The reference's Needs of layer 10. The reference's Rows, Front, Needs, Past of layer 10, at any place. Package seq's brought, Rows, Front, Swap, Past. -/
import Derived.Lib.SlicesCompact
import Derived.Laws.AppendOwnNone
import Derived.OwnWalk
import Derived.BigQuiet
import Derived.Deep.QuietTactic
import Derived.Handy
import Derived.Laws.Cover1
import Derived.Sort.OwnSorted
import Derived.Deep.RegionHeld3
import Derived.Deep.DrawnRows
import Derived.Deep.RegionLaw
import Derived.Test.YtalabahjfmcnbaaGreatDoorShelf
import Derived.WalkKit
import Derived.Test.YtalabahjfmcnbaaGreatDoorCk19
import Derived.Test.YtalabahjfmcnbaaGreatDoorCk29
namespace Go.Proofs.YtalabahjfmcnbaaGreatDoor
set_option linter.unusedVariables false

theorem setS_snoc (l : List (List UInt8)) (x : List UInt8) : setS (l ++ [x]) = ins x (setS l) := by simp [setS]
/-- Where a text goes into a set: behind k texts below it. -/
theorem ins_at (x : List UInt8) : ∀ (l : List (List UInt8)) (k : Nat), k ≤ l.length → (∀ j (h : j < l.length), j < k → l[j] < x) →
    (∀ h : k < l.length, ¬ l[k] < x) → ins x l = if h : k < l.length then (if l[k] = x then l else l.take k ++ x :: l.drop k) else l ++ [x]
  | [], k, hk, _, _ => by simp at hk; subst hk; simp [ins]
  | y :: r, 0, _, _, h => by
    have h0 : ¬ y < x := h (by simp)
    simp only [ins, h0, if_false]
    simp
  | y :: r, k + 1, hk, h1, h2 => by
    have hy : y < x := h1 0 (by simp) (by omega)
    simp only [ins, hy, if_true]
    rw [ins_at x r k (by simpa using hk) (fun j h hj => h1 (j + 1) (by simpa using h) (by omega)) (fun h => h2 (by simpa using h))]
    by_cases hkl : k < r.length
    · simp only [hkl, dif_pos, List.length_cons, Nat.add_lt_add_iff_right, List.getElem_cons_succ]
      split <;> simp
    · simp [hkl]
theorem ins_found {x : List UInt8} {l : List (List UInt8)} {k : Nat} (hk : k < l.length) (h1 : ∀ j (h : j < l.length), j < k → l[j] < x) (h2 : l[k] = x) : ins x l = l := by
  rw [ins_at x l k (by omega) h1 (fun _ => by rw [h2]; exact t_irrefl x), dif_pos hk, if_pos h2]
theorem ins_new {x : List UInt8} {l : List (List UInt8)} {k : Nat} (hk : k ≤ l.length) (h1 : ∀ j (h : j < l.length), j < k → l[j] < x) (h2 : ∀ h : k < l.length, ¬ l[k] < x ∧ l[k] ≠ x) : ins x l = l.take k ++ x :: l.drop k := by
  rw [ins_at x l k hk h1 (fun h => (h2 h).1)]
  by_cases h : k < l.length
  · rw [dif_pos h, if_neg (h2 h).2]
  · rw [dif_neg h]
    obtain rfl : k = l.length := by omega
    simp
end Go.Proofs.YtalabahjfmcnbaaGreatDoor
namespace Go.Proofs.YtalabahjfmcnbaaGreatDoor
open Go.RowKit
set_option linter.unusedVariables false

theorem own_made (w : World) (B : Nat) (hB : B ≤ w.heap.size) : OwnS (w.alloc (.cells #[] 9)) B (.slice (some ⟨w.heap.size, 0, none⟩) 0 0) [] :=
  w.ownsRow_made #[] 0 hB (Nat.zero_le _) rfl
end Go.Proofs.YtalabahjfmcnbaaGreatDoor
namespace Go.Proofs.YtalabahjfmcnbaaGreatDoor
open Go.RowKit
set_option linter.unusedVariables false


theorem same_any (A A2 : Option Addr) (ss tt : List ByteArray) (cap cap2 : Nat) (w : World) (hs : Strs w w.heap.size A ss) (ht : Strs w w.heap.size A2 tt)
    (hn : ss.length ≤ 140737488351232) (hn2 : tt.length ≤ 140737488351232) :
    Calls Tryz.prog 23 #[.slice A ss.length cap, .slice A2 tt.length cap2] w fun e w' => e = .returned (.bool (decide (ss = tt))) ∧ Below w.heap.size w w' :=
  (same_q A A2 ss tt cap cap2 w hs ht hn hn2).mono fun e w' ⟨h1, q, h2⟩ => ⟨h1, by rw [h2]; exact below_drewN (Below.refl _ _) q⟩
end Go.Proofs.YtalabahjfmcnbaaGreatDoor
namespace Go.Proofs.YtalabahjfmcnbaaGreatDoor
open Go.RowKit
set_option linter.unusedVariables false

theorem needs_len : ∀ (rs g : List Pk) (out : List Nat), out.length ≤ (needsP rs g out).length
  | [], g, out => Nat.le_refl _
  | r :: rs, g, out => by
    unfold needsP
    obtain ⟨n, x, q, e⟩ : ∃ n x q, pastP r g = (n, x, q) := ⟨_, _, _, rfl⟩
    rw [e]
    simp only
    split
    · exact needs_len rs x out
    · have := needs_len rs (r :: g) (rs.length :: out)
      simp only [List.length_cons] at this
      omega
/-- A step comes to the front just if it needs none. -/
theorem needs_front : ∀ (rs : List Pk) (x : Pk), needsP rs [x] [] = [] ↔ (aheadP rs x).1 = 0
  | [], x => by simp [needsP, aheadP]
  | r :: rs, x => by
    unfold needsP aheadP
    obtain ⟨n, b, a, e⟩ : ∃ n b a, pairP r x = (n, b, a) := ⟨_, _, _, rfl⟩
    have e2 : pastP r [x] = if n ≠ 0 then (n, [], zeroP) else (0, [b], a) := by
      unfold pastP
      rw [e]
      simp only
      split
      · rfl
      · simp [pastP]
    rw [e2, e]
    simp only
    by_cases hn : n = 0
    · subst hn
      have ih := needs_front rs b
      obtain ⟨m, y, o, e3⟩ : ∃ m y o, aheadP rs b = (m, y, o) := ⟨_, _, _, rfl⟩
      rw [e3] at ih
      simp only [ne_eq, not_true_eq_false, if_false, if_true, e3]
      rw [ih]
      simp only
      split
      · rename_i hm
        exact ⟨fun h => absurd h hm, fun h => absurd h hm⟩
      · rename_i hm
        simp only [Decidable.not_not] at hm
        exact ⟨fun _ => rfl, fun _ => hm⟩
    · simp only [if_pos hn, if_neg hn]
      have := needs_len rs [r, x] [rs.length]
      refine ⟨fun h => ?_, fun h => absurd h hn⟩
      rw [h] at this
      simp at this
/-- Steps i and i and 1 have changed places; or an error. -/
def swapP (l : List Pk) (i : Nat) : Int × List Pk :=
  if h : i + 1 < l.length then (match pairP l[i] l[i + 1] with
    | (n, b, a) => if n ≠ 0 then (n, []) else (0, l.take i ++ b :: a :: l.drop (i + 2)))
  else (3, [])
end Go.Proofs.YtalabahjfmcnbaaGreatDoor
namespace Go.Proofs.YtalabahjfmcnbaaGreatDoor
open Go.RowKit
set_option linter.unusedVariables false

theorem swap_brought {l : List Pk} {i : Nat} (h : i + 1 < l.length) : swapP l i = broughtP l (i + 1) i l[i + 1] := by
  unfold swapP broughtP
  rw [dif_pos h]
  have e1 : (l.take (i + 1)).drop i = [l[i]] := by
    rw [List.take_succ_eq_append_getElem (by omega), List.drop_append_of_le_length (by rw [List.length_take]; omega), List.drop_of_length_le (by rw [List.length_take]; omega)]
    rfl
  rw [e1, rows_one, past_one]
  obtain ⟨n, b, a, e⟩ : ∃ n b a, pairP l[i] l[i + 1] = (n, b, a) := ⟨_, _, _, rfl⟩
  rw [e]
  by_cases hn : n = 0
  · subst hn
    simp
  · simp [hn]
end Go.Proofs.YtalabahjfmcnbaaGreatDoor
namespace Go.Proofs.YtalabahjfmcnbaaGreatDoor
open Go.RowKit
set_option linter.unusedVariables false

def swapI (l : List Pk) (i : Int) : Int × List Pk := if 0 ≤ i ∧ i + 1 < (l.length : Int) then swapP l i.toNat else (3, [])
theorem swap_i {l : List Pk} {i : Nat} (h : i + 1 < l.length) : swapI l (i : Int) = swapP l i := by
  unfold swapI
  rw [if_pos ⟨by omega, by omega⟩, Int.toNat_natCast]
theorem swap_o {l : List Pk} {i : Int} (h : i < 0 ∨ (l.length : Int) - 1 ≤ i) : swapI l i = (3, []) := by
  unfold swapI
  rw [if_neg (by omega)]
/-- A step comes to the front just if it needs none. -/
theorem front_needs {l : List Pk} {i : Nat} (h : i < l.length) : (frontI l (i : Int)).1 = 0 ↔ (needsI l (i : Int)).length = 0 := by
  rw [front_i h, needs_i h, List.length_eq_zero_iff, needs_front]
  unfold frontP
  rw [dif_pos h]
  obtain ⟨n, y, o, e⟩ : ∃ n y o, aheadP (l.take i).reverse l[i] = (n, y, o) := ⟨_, _, _, rfl⟩
  rw [e]
  by_cases hn : n = 0 <;> simp [hn]

end Go.Proofs.YtalabahjfmcnbaaGreatDoor
namespace Go.Proofs.YtalabahjfmcnbaaGreatDoor
open Go.RowKit
set_option linter.unusedVariables false

theorem own_onei (w : World) (C k : Nat) (hC : C ≤ w.heap.size) : OwnI (w.alloc (.cells #[.int .i64 (k : Int)] 3)) C (.slice (some ⟨w.heap.size, 0, none⟩) 1 1) [k] :=
  ⟨by simp, .inr ⟨w.heap.size, 1, #[.int .i64 (k : Int)], rfl, hC, heap_alloc_new w _, Nat.le_refl _, by unfold maxLen; decide, rfl, by simp [intV]⟩⟩
theorem below_appendi {w0 w w' : World} {B : Nat} {v : Value} {ns : List Nat} (hb : Below B w0 w) (ho : OwnI w B v ns) (hg : w.grownBy w' v.ownBlock) (hB : B ≤ w0.heap.size) : Below B w0 w' :=
  hb.grown hg (Nat.le_trans hB hb.size) (fun k hk => (World.ownsRow.lt ho k hk).1)
theorem wpList_append_ints {w : World} {ops : Array Oper} {rest : List Oper} {o : Oper} {a : Act} {Q : Exit → Act → World → Prop} (hgd : o.guard = none) (s x : Operand)
    (ho : o.op = .call { callee := .builtin .append, args := #[s, x], argTypes := #[49, 49] })
    (B : Nat) (v : Value) (hs : List Nat) (hv : a.eval s = v) (hown : OwnI w B v hs) (ns : List Nat) (A : Option Addr) (n c : Nat) (hx : a.eval x = .slice A n c) (hl : RowN w A n c ns) (hB : B ≤ w.heap.size) (hle : hs.length + ns.length ≤ 100000)
    (m : Nat) (hm : m = hs.length + ns.length)
    (k : ∀ A' c' w', RowN w' A' m c' (hs ++ ns) → w.grownBy w' v.ownBlock → wpList Tryz.prog ops Q rest (a.put o.dst (.slice A' m c')) w') : wpList Tryz.prog ops Q (o :: rest) a w := by
  obtain ⟨i0, hi, hz0, hz1, hz2⟩ := info_parts info_int
  obtain ⟨hn, hat, hr⟩ := hl
  subst hn
  have k' : ∀ v' w', OwnI w' B v' (hs ++ ns) → w.grownBy w' v.ownBlock → wpList Tryz.prog ops Q rest (a.put o.dst v') w' := by
    intro v' w' ho' hg
    obtain ⟨A', c', rfl, hrow⟩ := ho'.row
    have e : (hs ++ ns).length = m := by rw [List.length_append, hm]
    rw [e] at hrow ⊢
    exact k A' c' w' hrow hg
  cases A with
  | none =>
    have h0 : ns = [] := by
      cases ns with
      | nil => rfl
      | cons y r => exact absurd (hat (by simp)) (by rintro ⟨_, _, e, _⟩; cases e)
    subst h0
    rw [hr.1 rfl] at hx
    refine wpList_append_own_none hgd s x 49 ho B 3 i0 1 Tryz.underlying49 hi v _ _ hv hown hx ?_
    exact k' v w (by simpa using hown) ⟨rfl, rfl, rfl, Nat.le_refl _, fun _ _ _ => rfl⟩
  | some ad =>
    refine wpList_append_own w hgd s x 49 ho B 3 i0 _ 1 8 Tryz.underlying49 hi hz0 hz1 hz2 rfl (by decide) v hs.length (hs.map intV) hv hown ad ns.length c (ns.map intV) hx (by simp) ?_ (fun u hu => by obtain ⟨_, _, rfl⟩ := List.mem_map.1 hu; rfl) (by unfold maxLen; omega) (by omega) hB ?_
    · intro j u hu
      obtain ⟨hj, hju⟩ := List.getElem?_eq_some_iff.1 hu
      have hj2 : j < ns.length := by simpa using hj
      obtain ⟨b, off, e, hb, hc⟩ := hat (by omega)
      simp only [Option.some.injEq] at e
      subst e
      have hadd : (⟨b, off, none⟩ : Addr).add j = ⟨b, off + j, none⟩ := by unfold Addr.add; split <;> simp_all
      rw [hadd, hc j hj2, ← hju]
      simp
    · intro v' w' hown' hgrow _
      refine k' v' w' ?_ hgrow
      unfold OwnI
      rw [List.length_append, List.map_append]
      exact hown'
/-- What Needs hands back. -/
def NeedsB (w : World) (ns : List Nat) (e : Ending) (w' : World) : Prop :=
  ∃ (A : Option Addr) (n c : Nat), e = .returned (.slice A n c) ∧ Hid (RowN w' A n c ns) ∧ Below w.heap.size w w'
theorem needs_out (w : World) (l : List Pm) (A : Option Addr) (lc : Nat) (iv : Int) (h : iv < 0 ∨ (l.length : Int) ≤ iv) :
    Calls Tryz.prog 20 #[.slice A l.length lc, .int .i64 iv] w (NeedsB w []) := by
  have HF : Hid (NeedsB w [] (.returned (.slice none 0 0)) w) := ⟨none, 0, 0, rfl, RowN.nil _, Below.refl _ _⟩
  by_cases h1 : iv < 0
  · clear h
    go_enter Tryz.func20, Tryz.ntmps20
    go_wp2
    go_ret
    exact HF.out
  · have h2 : (l.length : Int) ≤ iv := by omega
    have h3 : 0 ≤ iv := by omega
    clear h
    go_enter Tryz.func20, Tryz.ntmps20
    go_wp2
    go_ret
    exact HF.out
set_option maxHeartbeats 40000000 in
set_option maxRecDepth 100000 in
theorem refneeds_any (A : Option Addr) (l : List Pm) (lc i : Nat) (w : World) (B : Nat) (hB : B ≤ w.heap.size) (ha : RowB w B A l.length lc l) (hl : ∀ y ∈ l, LtK y.key) (hn : l.length ≤ 500) (hi : i < l.length) (hT : Tabs w) :
    Calls Tryz.prog 20 #[.slice A l.length lc, .int .i64 (i : Int)] w (NeedsB w (needsP ((pkeys l).take i).reverse [l[i].key] [])) := by
  obtain ⟨R9, hR9⟩ : ∃ r, needsP ((pkeys l).take i).reverse [l[i].key] [] = r := ⟨_, rfl⟩
  rw [hR9]
  obtain ⟨lb, lo, rfl, _, d0, d1, d2, d3, d4, d5⟩ := ha.at_.get hi
  obtain ⟨x0, hx0⟩ : ∃ x, l[i] = x := ⟨_, rfl⟩
  have hxB := ha.ok l[i] (List.getElem_mem _)
  have hxl := hl l[i] (List.getElem_mem _)
  rw [hx0] at d0 d1 d2 d3 d4 d5 hxB hxl hR9
  have hal : Below w.heap.size w (w.alloc (.cells #[.int .i64 x0.kind, .string x0.p, .string x0.dst, .int .i64 x0.at_, .slice x0.a1 x0.old.length x0.c1, .slice x0.a2 x0.new.length x0.c2] 33)) := (Below.refl _ _).alloc (Nat.le_refl _) _
  have HI0 : Hid (RowB (w.alloc (.cells #[.int .i64 x0.kind, .string x0.p, .string x0.dst, .int .i64 x0.at_, .slice x0.a1 x0.old.length x0.c1, .slice x0.a2 x0.new.length x0.c2] 33)) B (some ⟨w.heap.size, 0, none⟩) 1 1 [x0] ∧ (∀ y ∈ [x0], LtK y.key) ∧ [x0].length + i ≤ i + 1 ∧ needsP ((pkeys l).take i).reverse (pkeys [x0]) [] = R9) := by
    refine ⟨RowB.of_own (own_onep w w.heap.size x0 (Nat.le_refl _)) (Nat.le_trans hB hal.size) (fun z hz => ?_), (fun y hy => ?_), by simp <;> omega, hR9⟩
    · obtain rfl : z = x0 := by simpa using hz
      exact hxB.below (hal.mono hB)
    · obtain rfl : y = x0 := by simpa using hy
      exact hxl
  have HS := Lib.hid ha
  have HL := Lib.hid hl
  have HT := Lib.hid hT
  have HBW := Lib.hid hB
  have HB0 := Lib.hid hal
  have u1 : (0 : Int) ≤ (i : Int) := by omega
  have u2 : (i : Int) < (l.length : Int) := by omega
  have q1 : IntKind.i64.wrap ((i : Int) - 1) = (i : Int) - 1 := IntWalk.i64_in _ (by omega)
  clear hR9 ha hl hT hB hxB hxl hal hx0
  go_enter Tryz.func20, Tryz.ntmps20
  go_wp2
  clear d0 d1 d2 d3 d4 d5 q1
  generalize hbq : decide (l.length ≤ i) = bq
  clear hbq
  go_loopw [5, 6, 7] (fun ov gv iv wr => ∃ (k : Nat) (A1 : Option Addr) (n1 c1 : Nat) (gs : List Pm) (A2 : Option Addr) (n2 c2 : Nat) (os : List Nat), ov = .slice A2 n2 c2 ∧ gv = .slice A1 n1 c1 ∧ iv = .int .i64 ((k : Int) - 1) ∧ k ≤ i ∧ Hid (RowB wr B A1 n1 c1 gs ∧ (∀ y ∈ gs, LtK y.key) ∧ gs.length + k ≤ i + 1 ∧ needsP ((pkeys l).take k).reverse (pkeys gs) os = R9) ∧ Hid (RowN wr A2 n2 c2 os ∧ os.length + k ≤ i) ∧ Hid (Below w.heap.size w wr)) (fun _ _ iv _ => (intOf iv + 1).toNat)
  case atStart => exact ⟨i, _, 1, 1, [x0], none, 0, 0, [], rfl, rfl, rfl, Nat.le_refl _, HI0.out, ⟨RowN.nil _, by simp⟩, HB0.out⟩
  case round =>
    clear HI0 HB0
    obtain ⟨k, A1, n1, c1, gs, A2, n2, c2, os, rfl, rfl, rfl, hk, HI, HJ, HB⟩ := hrel
    rcases Nat.eq_zero_or_pos k with h0 | h0
    · subst h0
      have hR : os = R9 := HI.out.2.2.2
      have HF : Hid (NeedsB w R9 (.returned (.slice A2 n2 c2)) wr) := ⟨A2, n2, c2, rfl, hR ▸ HJ.out.1, HB.out⟩
      clear hR HI HJ HB
      go_wp2
      go_ret
      exact HF.out
    · obtain ⟨j, rfl⟩ : ∃ j, k = j + 1 := ⟨k - 1, by omega⟩
      have hlt : j < l.length := by omega
      have hS := (HS.out.on HBW.out HB.out)
      obtain ⟨lb', lo', e, _, d0, d1, d2, d3, d4, d5⟩ := hS.at_.get hlt
      cases e
      obtain ⟨y, hy⟩ : ∃ y, l[j] = y := ⟨_, rfl⟩
      have hyB := hS.ok l[j] (List.getElem_mem _)
      have hyl := HL.out l[j] (List.getElem_mem _)
      have htk : ((pkeys l).take (j + 1)).reverse = y.key :: ((pkeys l).take j).reverse := by
        have h1 : j < (pkeys l).length := by rw [pkeys_len]; exact hlt
        rw [List.take_succ_eq_append_getElem h1, List.reverse_append]
        simp [pkeys, ← hy]
      have HYE := Lib.hid hy
      rw [hy] at d0 d1 d2 d3 d4 d5 hyB hyl
      have hn1 := HI.out.1.len
      subst hn1
      have hBr : B ≤ wr.heap.size := Nat.le_trans HBW.out HB.out.size
      have hgs := HI.out.2.2.1
      have CP := Lib.hid (refpast_any y A1 gs c1 wr B hBr hyB hyl HI.out.1.at_ HI.out.1.ok HI.out.2.1 (by omega) (Tabs.on HT.out HB.out))
      obtain ⟨er, ox, oq, hpast⟩ : ∃ n o q, pastP y.key (pkeys gs) = (n, o, q) := ⟨_, _, _, rfl⟩
      have hplt := past_lt (pkeys gs) hyl (fun x hx => by
        unfold pkeys at hx
        obtain ⟨r, hr, rfl⟩ := List.mem_map.1 hx
        exact HI.out.2.1 r hr) hpast
      have HFD : Hid (needsP (y.key :: ((pkeys l).take j).reverse) (pkeys gs) os = R9) := by rw [← htk]; exact HI.out.2.2.2
      have htl : ((pkeys l).take j).reverse.length = j := by rw [List.length_reverse, List.length_take, pkeys_len]; omega
      have HTL := Lib.hid htl
      have HPT := Lib.hid hpast
      have HPL := Lib.hid hplt
      have u4 : (0 : Int) ≤ (j : Int) := by omega
      have u5 : (j : Int) < (l.length : Int) := by omega
      have u3 : (((j + 1 : Nat) : Int)) - 1 = (j : Int) := by omega
      have hj64 : j ≤ 500 := by omega
      have HRL : Hid (gs.length + (j + 1) ≤ i + 1) := hgs
      have HGR := Lib.hid HI.out.1
      have HGL := Lib.hid HI.out.2.1
      have HBR := Lib.hid hBr
      have HYB := Lib.hid hyB
      have HYL : Hid (LtK y.key) := hyl
      rw [u3]
      unfold Pm.val at CP
      clear htk hpast hplt hyB hyl hS hy hBr u3 hgs htl
      go_wp2_with fail
      refine CP.out.mono ?_
      rintro e w7 ⟨A3, n3, c3, r3, z, er2, rfl, hp, hb⟩
      obtain ⟨p1, p2, p3, p4, p5, p6⟩ := hp.out
      rw [HPT.out] at p6
      simp only [Prod.mk.injEq] at p6
      obtain ⟨rfl, rfl, rfl⟩ := p6
      have hal : Below w7.heap.size w7 (w7.alloc (.cells #[.int .i64 z.kind, .string z.p, .string z.dst, .int .i64 z.at_, .slice z.a1 z.old.length z.c1, .slice z.a2 z.new.length z.c2] 33)) := (Below.refl _ _).alloc (Nat.le_refl _) _
      have hB7 : B ≤ w7.heap.size := Nat.le_trans HBR.out hb.size
      have hbl := hb.trans (hal.mono hb.size)
      have H3 : Hid (RowB (w7.alloc (.cells #[.int .i64 z.kind, .string z.p, .string z.dst, .int .i64 z.at_, .slice z.a1 z.old.length z.c1, .slice z.a2 z.new.length z.c2] 33)) B A3 n3 c3 r3) := (RowB.on ⟨p1, p2, p3, p4⟩ hB7 hal)
      have HZ := Lib.hid (PrimAt.new_ w7 z)
      have e1 : (w7.alloc (.cells z.cells.toArray 33)) = (w7.alloc (.cells #[.int .i64 z.kind, .string z.p, .string z.dst, .int .i64 z.at_, .slice z.a1 z.old.length z.c1, .slice z.a2 z.new.length z.c2] 33)) := rfl
      rw [e1] at HZ
      replace HJ := Lib.hid (⟨HJ.out.1.on hbl, HJ.out.2⟩ : RowN _ _ _ _ _ ∧ _)
      replace HGR := Lib.hid (HGR.out.on HBR.out hbl)
      replace HYB := Lib.hid (HYB.out.below (hbl.mono HBR.out))
      replace HB := Lib.hid (HB.out.trans (hbl.mono HB.out.size))
      have HB8 : Hid (B ≤ (w7.alloc (.cells #[.int .i64 z.kind, .string z.p, .string z.dst, .int .i64 z.at_, .slice z.a1 z.old.length z.c1, .slice z.a2 z.new.length z.c2] 33)).heap.size) := Nat.le_trans hB7 hal.size
      clear hp p1 p2 p3 p4 p5 hal hB7 hbl hb e1 CP HI d0 d1 d2 d3 d4 d5
      by_cases he : er = 0
      · subst he
        have HI4 : Hid (RowB (w7.alloc (.cells #[.int .i64 z.kind, .string z.p, .string z.dst, .int .i64 z.at_, .slice z.a1 z.old.length z.c1, .slice z.a2 z.new.length z.c2] 33)) B A3 n3 c3 r3 ∧ (∀ x ∈ r3, LtK x.key) ∧ r3.length + j ≤ i + 1 ∧ needsP ((pkeys l).take j).reverse (pkeys r3) os = R9) := by
          refine ⟨H3.out, fun x hx => HPL.out.2.1 x.key (List.mem_map_of_mem hx), ?_, ?_⟩
          · have := HPL.out.2.2.1
            have h5 := HRL.out
            rw [pkeys_len, pkeys_len] at this
            omega
          · rw [← HFD.out]
            conv => rhs; unfold needsP
            simp only [HPT.out, if_true]
        have HJ4 : Hid (RowN (w7.alloc (.cells #[.int .i64 z.kind, .string z.p, .string z.dst, .int .i64 z.at_, .slice z.a1 z.old.length z.c1, .slice z.a2 z.new.length z.c2] 33)) A2 n2 c2 os ∧ os.length + j ≤ i) := ⟨HJ.out.1, by have := HJ.out.2; omega⟩
        have q2 : IntKind.i64.wrap ((j : Int) - 1) = (j : Int) - 1 := IntWalk.i64_in _ (by omega)
        clear HFD HPT HPL HJ HGR HGL HYB HYL H3 HZ HTL
        go_wp2
        go_roundw
        case rel =>
          first
          | exact ⟨j, A3, n3, c3, r3, A2, n2, c2, os, rfl, rfl, rfl, by omega, HI4.out, HJ4.out, HB.out⟩
          | ((repeat apply Exists.intro); exact ⟨⟨rfl, rfl, rfl, by omega, HI4.out, HJ4.out, HB.out⟩, rfl⟩)
        case measure => simp [intOf] <;> omega
      · have ke : (er == 0) = false := by simpa using he
        have HFN : Hid (needsP ((pkeys l).take j).reverse (pkeys (y :: gs)) (j :: os) = R9) := by
          show _ = _
          rw [← HFD.out]
          conv => rhs; unfold needsP
          simp only [HPT.out, if_neg he, HTL.out]
          rfl
        clear HFD HPT HPL H3 HTL
        go_upto_region 11 with (fail)
        clear HZ
        generalize hwx : (w7.alloc (.cells #[.int .i64 z.kind, .string z.p, .string z.dst, .int .i64 z.at_, .slice z.a1 z.old.length z.c1, .slice z.a2 z.new.length z.c2] 33)) = wx at *
        clear hwx
        generalize w7.heap.size = gz at *
        have hS := (HS.out.on HBW.out HB.out)
        obtain ⟨lb', lo', e, _, d0, d1, d2, d3, d4, d5⟩ := hS.at_.get hlt
        cases e
        rw [HYE.out] at d0 d1 d2 d3 d4 d5
        have hax : Below wx.heap.size wx (wx.alloc (.cells #[.int .i64 y.kind, .string y.p, .string y.dst, .int .i64 y.at_, .slice y.a1 y.old.length y.c1, .slice y.a2 y.new.length y.c2] 33)) := (Below.refl _ _).alloc (Nat.le_refl _) _
        have HOW := Lib.hid (own_onep wx wx.heap.size y (Nat.le_refl _))
        have HJA := Lib.hid (HGR.out.on HB8.out hax)
        have HAX := Lib.hid hax
        obtain ⟨N, hN⟩ : ∃ N, N = [y].length + gs.length := ⟨_, rfl⟩
        have HN := Lib.hid hN
        have hs5 : gs.length ≤ 500 := by have := HRL.out; omega
        clear hax hN hS
        go_wp2_with (at_builtin; refine wpList_append_prims rfl _ _ rfl wx.heap.size (.slice (some ⟨wx.heap.size, 0, none⟩) 1 1) [y] rfl HOW.out gs A1 gs.length c1 rfl HJA.out.len HJA.out.room.1 HJA.out.at_ HAX.out.size (by simp only [List.length_cons, List.length_nil]; omega) N HN.out ?_)
        intro A4 c4 w4 ho4 hg4
        have hb4 : Below wx.heap.size wx w4 := below_appendp HAX.out HOW.out hg4 (Nat.le_refl _)
        have HRN : Hid (RowB w4 B A4 N c4 (y :: gs)) := by
          refine RowB.of_own ho4 (Nat.le_trans HB8.out hb4.size) (fun x hx => ?_)
          rcases List.mem_cons.1 hx with rfl | hx
          · exact HYB.out.below (hb4.mono HB8.out)
          · exact (HGR.out.ok x hx).below (hb4.mono HB8.out)
        have HBN := Lib.hid (HB.out.trans (hb4.mono HB.out.size))
        have HJ4 : Hid (RowN w4 A2 n2 c2 os ∧ os.length + (j + 1) ≤ i) := ⟨HJ.out.1.on hb4, HJ.out.2⟩
        have HB4 : Hid (B ≤ w4.heap.size) := Nat.le_trans HB8.out hb4.size
        clear ho4 hg4 hb4 HOW HJA HAX HN HJ HB HGR HYB HB8 d0 d1 d2 d3 d4 d5
        have hay : Below w4.heap.size w4 (w4.alloc (.cells #[.int .i64 (j : Int)] 3)) := (Below.refl _ _).alloc (Nat.le_refl _) _
        have HOI := Lib.hid (own_onei w4 w4.heap.size j (Nat.le_refl _))
        have HNA := Lib.hid (HJ4.out.1.on hay)
        have HAY := Lib.hid hay
        obtain ⟨M, hM⟩ : ∃ M, M = [j].length + os.length := ⟨_, rfl⟩
        have HM := Lib.hid hM
        have ho5 : os.length ≤ 500 := by have := HJ4.out.2; omega
        clear hay hM
        go_wp2_with (at_builtin; refine wpList_append_ints rfl _ _ rfl w4.heap.size (.slice (some ⟨w4.heap.size, 0, none⟩) 1 1) [j] rfl HOI.out os A2 n2 c2 rfl HNA.out HAY.out.size (by simp only [List.length_cons, List.length_nil]; omega) M HM.out ?_)
        intro A5 c5 w5 hr5 hg5
        have hb5 : Below w4.heap.size w4 w5 := below_appendi HAY.out HOI.out hg5 (Nat.le_refl _)
        have HI5 : Hid (RowB w5 B A4 N c4 (y :: gs) ∧ (∀ x ∈ y :: gs, LtK x.key) ∧ (y :: gs).length + j ≤ i + 1 ∧ needsP ((pkeys l).take j).reverse (pkeys (y :: gs)) (j :: os) = R9) := by
          refine ⟨HRN.out.on HB4.out hb5, (fun x hx => ?_), by have := HRL.out; simp only [List.length_cons]; omega, HFN.out⟩
          rcases List.mem_cons.1 hx with rfl | hx
          · exact HYL.out
          · exact HGL.out x hx
        have HJ5 : Hid (RowN w5 A5 M c5 (j :: os) ∧ (j :: os).length + j ≤ i) := ⟨hr5, by have := HJ4.out.2; simp only [List.length_cons]; omega⟩
        have HB5 := Lib.hid (HBN.out.trans (hb5.mono HBN.out.size))
        have q2 : IntKind.i64.wrap ((j : Int) - 1) = (j : Int) - 1 := IntWalk.i64_in _ (by omega)
        clear hr5 hg5 hb5 HOI HNA HAY HM HJ4 HRN HFN HBN
        go_wp2
        go_roundw
        case rel =>
          first
          | exact ⟨j, A4, N, c4, y :: gs, A5, M, c5, j :: os, rfl, rfl, rfl, by omega, HI5.out, HJ5.out, HB5.out⟩
          | ((repeat apply Exists.intro); exact ⟨⟨rfl, rfl, rfl, by omega, HI5.out, HJ5.out, HB5.out⟩, rfl⟩)
        case measure => simp [intOf] <;> omega
end Go.Proofs.YtalabahjfmcnbaaGreatDoor
namespace Go.Proofs.YtalabahjfmcnbaaGreatDoor
open Go.RowKit
set_option linter.unusedVariables false

theorem refneeds_w (A : Option Addr) (l : List Pm) (n c : Nat) (i : Int) (w : World) (ha : RowW w A n c l) (hl : ∀ y ∈ l, LtK y.key) (hn : l.length ≤ 500) (hT : Tabs w) :
    Calls Tryz.prog 20 #[.slice A n c, .int .i64 i] w (NeedsB w (needsI (pkeys l) i)) := by
  have e := ha.len
  subst e
  by_cases h : i < 0 ∨ (l.length : Int) ≤ i
  · rw [needs_o (by rw [pkeys_len]; exact h)]
    exact needs_out w l A c i h
  · obtain ⟨k, rfl⟩ : ∃ k : Nat, i = (k : Int) := ⟨i.toNat, by omega⟩
    have hk : k < l.length := by omega
    rw [needs_i (by rw [pkeys_len]; exact hk), show (pkeys l)[k]'(by rw [pkeys_len]; exact hk) = l[k].key by simp [pkeys]]
    exact refneeds_any A l c k w w.heap.size (Nat.le_refl _) ha hl hn hk hT
end Go.Proofs.YtalabahjfmcnbaaGreatDoor
namespace Go.Proofs.YtalabahjfmcnbaaGreatDoor
open Go.RowKit
set_option linter.unusedVariables false

set_option maxHeartbeats 20000000 in
set_option maxRecDepth 100000 in
theorem seqswap_any (A : Option Addr) (l : List Pm) (n c : Nat) (i : Int) (w : World) (ha : RowW w A n c l) (hl : ∀ y ∈ l, LtK y.key) (hn : l.length ≤ 500) (hT : Tabs w) :
    Calls Tryz.prog 22 #[.slice A n c, .int .i64 i] w (FrontW w (swapI (pkeys l) i)) := by
  have hln := ha.len
  have hn5 : n ≤ 500 := by omega
  have q1 : IntKind.i64.wrap ((n : Int) - 1) = (n : Int) - 1 := IntWalk.i64_in _ (by omega)
  by_cases h : i < 0 ∨ (n : Int) - 1 ≤ i
  · rw [swap_o (by rw [pkeys_len]; omega)]
    have HF : Hid (FrontW w (3, []) (.returned (.tuple #[.slice none 0 0, .int .i64 3])) w) := ⟨none, 0, 0, [], 3, rfl, ⟨RowW.nil _, rfl⟩, Below.refl _ _⟩
    clear ha hl hT hln
    by_cases h1 : i < 0
    · clear h
      go_enter Tryz.func22, Tryz.ntmps22
      go_wp2
      go_ret2
      exact HF.out
    · have h2 : (n : Int) - 1 ≤ i := by omega
      have h3 : 0 ≤ i := by omega
      clear h
      go_enter Tryz.func22, Tryz.ntmps22
      go_wp2
      go_ret2
      exact HF.out
  · obtain ⟨k, rfl⟩ : ∃ k : Nat, i = (k : Int) := ⟨i.toNat, by omega⟩
    have hk : k + 1 < l.length := by omega
    have CB := brought_any A l n c (k + 1) k w ha hl hn hk (by omega) hT
    have e : broughtP (pkeys l) (k + 1) k l[k + 1].key = swapI (pkeys l) (k : Int) := by
      rw [swap_i (by rw [pkeys_len]; exact hk), swap_brought (by rw [pkeys_len]; exact hk)]
      simp [pkeys]
    rw [e] at CB
    have e2 : (((k + 1 : Nat) : Int)) = (k : Int) + 1 := by omega
    rw [e2] at CB
    have CB := Lib.hid CB
    have u1 : (0 : Int) ≤ (k : Int) := by omega
    have u2 : (k : Int) < (n : Int) - 1 := by omega
    have q2 : IntKind.i64.wrap ((k : Int) + 1) = (k : Int) + 1 := IntWalk.i64_in _ (by omega)
    clear ha hl hT hln h e e2
    go_enter Tryz.func22, Tryz.ntmps22
    go_wp2_with fail
    refine CB.out.mono ?_
    rintro e w1 ⟨A3, n3, c3, rs, er, rfl, hp, hb⟩
    have HF : Hid (FrontW w (swapI (pkeys l) (k : Int)) (.returned (.tuple #[.slice A3 n3 c3, .int .i64 er])) w1) := ⟨A3, n3, c3, rs, er, rfl, hp, hb⟩
    clear hp hb CB
    go_wp2
    go_ret2
    exact HF.out

end Go.Proofs.YtalabahjfmcnbaaGreatDoor
