/- may of the laws of layer 15. Light operations: what they hold; two of them in a row. Pairs in arrays held against each other; an element of a row of any records. Package clash's way to tell why operations clash, plainly: by lines where the first is a hunk, by places else. Words for memory: a map whose keys are ids, told as a set of ids. Package clash, words for memory: places in rows and in arrays; operations where they lie; what a round of a walk leaves. -/
import Derived.Lib.SlicesCompact
import Derived.Test.YtideldgblafhlaaDoorShelf
import Derived.BigQuiet
import Derived.Deep.QuietTactic
import Derived.Test.YtideldgblafhlaaDoorProg
import Derived.WalkKit
import Derived.WalkSpells
import Derived.Handy
import Derived.Lib.Hide
import Derived.Shelf.Strings.BuilderK
import Derived.Deep.CutRange
import Derived.ChangeKeysEq
import Derived.Deep.MidRow
import Derived.Maps.OwnSet
import Derived.DeepKeys4
import Derived.RangeFuncBox
import Derived.RangeFuncNested
import Derived.Test.YtideldgblafhlaaDoorCk10
namespace Go.Proofs.YtideldgblafhlaaDoor
open Go.RowKit
set_option linter.unusedVariables false

/-- What may tells. -/
def MayLeft (l : List Om) (w : World) (e : Ending) (w' : World) : Prop := ∃ r : Bool, e = .returned (.bool r) ∧ Hid (r = true → l.length ≤ 40 ∧ (∀ x ∈ l, mayO x.key = true) ∧ ∀ x ∈ l, x.Lt) ∧ Below w.heap.size w w'
set_option maxHeartbeats 8000000 in
set_option maxRecDepth 100000 in
theorem lmay_any (A : Option Addr) (l : List Om) (cap : Nat) (w : World) (hs : Ops w w.heap.size A l) (hi : ∀ x ∈ l, x.In) (hm : ∀ x ∈ l, x.Mz) (hn : l.length ≤ 9223372036854775807) (hT : Tabs w) :
    Calls Tryd.prog 5 #[.slice A l.length cap] w (MayLeft l w) := by
  have HS := Lib.hid hs
  have HI := Lib.hid hi
  have HM := Lib.hid hm
  have HT := Lib.hid hT
  have HG0 : Hid (Below w.heap.size w w) := Below.refl _ _
  clear hs hi hm hT
  go_enter Tryd.func5, Tryd.ntmps5
  go_wp2
  go_loopw [3] (fun i wr => ∃ k : Nat, k ≤ l.length ∧ i = .int .i64 (k : Int) ∧ Hid (∀ j (hj : j < l.length), j < k → mayO l[j].key = true) ∧ Hid (Below w.heap.size w wr)) (fun i _ => l.length - (intOf i).toNat)
  case atStart => exact ⟨0, Nat.zero_le _, rfl, fun j _ h => absurd h (by omega), HG0.out⟩
  case round =>
    clear HG0
    obtain ⟨k, hk, rfl, HALL, HG⟩ := hrel
    by_cases hlt : k < l.length
    · obtain ⟨b, off, eA, _, hc⟩ := (HS.out.on HG.out).1.get hlt
      have OX := Lib.hid ((HS.out.on HG.out).2 _ (List.getElem_mem hlt))
      have MX := Lib.hid (HM.out _ (List.getElem_mem hlt))
      have IA := op_indexAt (c := cap) eA hlt
      have RX := Lib.hid (op_rngm hc)
      have HNX : Hid (mayO l[k].key = true → ∀ j (hj : j < l.length), j < k + 1 → mayO l[j].key = true) := fun h j hj hjk => by
        by_cases e : j = k
        · subst e; exact h
        · exact HALL.out j hj (by omega)
      have u0 : (0 : Int) ≤ (k : Int) := by omega
      have u1 : (k : Int) < (l.length : Int) := by omega
      clear hc eA
      generalize l[k] = x at *
      obtain ⟨m, hm⟩ : ∃ m, mayO x.key = m := ⟨_, rfl⟩
      have CM := Lib.hid (refmaym_any x wr OX.out MX.out (Tabs.on HT.out HG.out))
      rw [hm] at CM HNX
      unfold Om.val Om.cells at CM
      clear hm OX MX
      -- @P1
      go_wp2_with (first | ((with_reducible refine wpList_load_opm (.tmp 12) b (off + k * 16) x RX.out ?_ ?_ ?_ ?_); rfl; rfl; rfl; simp only [Act.put, List.setIfInBounds_toArray, List.set_cons_zero, List.set_cons_succ, Om.val, Om.cells]) | fail)
      refine CM.out.mono ?_
      rintro e w1 ⟨rfl, hb⟩
      have HGN := Lib.hid (HG.out.trans (hb.mono HG.out.size))
      clear hb CM RX HG
      cases m
      · have HV : Hid (MayLeft l w (.returned (.bool false)) w1) := ⟨false, rfl, (fun h => by cases h), HGN.out⟩
        clear HNX HALL
        go_wp2
        go_ret
        exact HV.out
      · have HNX2 := Lib.hid (HNX.out rfl)
        clear HNX HALL
        go_wp2
        go_roundw
        case rel => exact ⟨k + 1, by omega, by go_num, HNX2.out, HGN.out⟩
        case measure => simp [intOf]; omega
    · have u1 : ¬ (k : Int) < (l.length : Int) := by omega
      have HA : Hid (∀ x ∈ l, mayO x.key = true) := fun x hx => by
        obtain ⟨j, hj, rfl⟩ := List.getElem_of_mem hx
        exact HALL.out j hj (by omega)
      have CL := Lib.hid (light12n_any A l cap wr (HS.out.on HG.out) HI.out hn)
      clear HALL
      go_wp2_with fail
      refine CL.out.mono ?_
      rintro e w1 ⟨r, rfl, hl, hb⟩
      have HV : Hid (MayLeft l w (.returned (.bool r)) w1) := ⟨r, rfl, fun h => ⟨(hl.out h).1, HA.out, (hl.out h).2⟩, HG.out.trans (hb.mono HG.out.size)⟩
      clear hl hb HG CL HA
      go_wp2
      go_ret
      exact HV.out
end Go.Proofs.YtideldgblafhlaaDoor
namespace Go.Proofs.YtideldgblafhlaaDoor
open Go.RowKit
set_option linter.unusedVariables false

theorem ops_two (w : World) (x q : Om) (hx : x.Ok w w.heap.size) (hq : q.Ok w w.heap.size) : Below w.heap.size w (w.alloc (.cells #[.int .i64 x.kind, .string x.self.p, .int .i64 x.self.n, .string x.parent.p, .int .i64 x.parent.n, .string x.dst.p, .int .i64 x.dst.n, .string x.name, .string x.dname, .string x.left.p, .int .i64 x.left.n, .string x.right.p, .int .i64 x.right.n, .slice x.a1 x.dels.length x.c1, .int .i64 x.first, .slice x.a2 x.lines.length x.c2, .int .i64 q.kind, .string q.self.p, .int .i64 q.self.n, .string q.parent.p, .int .i64 q.parent.n, .string q.dst.p, .int .i64 q.dst.n, .string q.name, .string q.dname, .string q.left.p, .int .i64 q.left.n, .string q.right.p, .int .i64 q.right.n, .slice q.a1 q.dels.length q.c1, .int .i64 q.first, .slice q.a2 q.lines.length q.c2] 27)) ∧ Ops (w.alloc (.cells #[.int .i64 x.kind, .string x.self.p, .int .i64 x.self.n, .string x.parent.p, .int .i64 x.parent.n, .string x.dst.p, .int .i64 x.dst.n, .string x.name, .string x.dname, .string x.left.p, .int .i64 x.left.n, .string x.right.p, .int .i64 x.right.n, .slice x.a1 x.dels.length x.c1, .int .i64 x.first, .slice x.a2 x.lines.length x.c2, .int .i64 q.kind, .string q.self.p, .int .i64 q.self.n, .string q.parent.p, .int .i64 q.parent.n, .string q.dst.p, .int .i64 q.dst.n, .string q.name, .string q.dname, .string q.left.p, .int .i64 q.left.n, .string q.right.p, .int .i64 q.right.n, .slice q.a1 q.dels.length q.c1, .int .i64 q.first, .slice q.a2 q.lines.length q.c2] 27)) (w.alloc (.cells #[.int .i64 x.kind, .string x.self.p, .int .i64 x.self.n, .string x.parent.p, .int .i64 x.parent.n, .string x.dst.p, .int .i64 x.dst.n, .string x.name, .string x.dname, .string x.left.p, .int .i64 x.left.n, .string x.right.p, .int .i64 x.right.n, .slice x.a1 x.dels.length x.c1, .int .i64 x.first, .slice x.a2 x.lines.length x.c2, .int .i64 q.kind, .string q.self.p, .int .i64 q.self.n, .string q.parent.p, .int .i64 q.parent.n, .string q.dst.p, .int .i64 q.dst.n, .string q.name, .string q.dname, .string q.left.p, .int .i64 q.left.n, .string q.right.p, .int .i64 q.right.n, .slice q.a1 q.dels.length q.c1, .int .i64 q.first, .slice q.a2 q.lines.length q.c2] 27)).heap.size (some ⟨w.heap.size, 0, none⟩) [x, q] := by
  have HO : opR.Own (w.alloc (.cells #[.int .i64 x.kind, .string x.self.p, .int .i64 x.self.n, .string x.parent.p, .int .i64 x.parent.n, .string x.dst.p, .int .i64 x.dst.n, .string x.name, .string x.dname, .string x.left.p, .int .i64 x.left.n, .string x.right.p, .int .i64 x.right.n, .slice x.a1 x.dels.length x.c1, .int .i64 x.first, .slice x.a2 x.lines.length x.c2, .int .i64 q.kind, .string q.self.p, .int .i64 q.self.n, .string q.parent.p, .int .i64 q.parent.n, .string q.dst.p, .int .i64 q.dst.n, .string q.name, .string q.dname, .string q.left.p, .int .i64 q.left.n, .string q.right.p, .int .i64 q.right.n, .slice q.a1 q.dels.length q.c1, .int .i64 q.first, .slice q.a2 q.lines.length q.c2] 27)) w.heap.size (.slice (some ⟨w.heap.size, 0, none⟩) 2 2) [x, q] := World.ownsRow_lit (base := w.heap.size) (e := 27) (size := 16) w #[.int .i64 x.kind, .string x.self.p, .int .i64 x.self.n, .string x.parent.p, .int .i64 x.parent.n, .string x.dst.p, .int .i64 x.dst.n, .string x.name, .string x.dname, .string x.left.p, .int .i64 x.left.n, .string x.right.p, .int .i64 x.right.n, .slice x.a1 x.dels.length x.c1, .int .i64 x.first, .slice x.a2 x.lines.length x.c2, .int .i64 q.kind, .string q.self.p, .int .i64 q.self.n, .string q.parent.p, .int .i64 q.parent.n, .string q.dst.p, .int .i64 q.dst.n, .string q.name, .string q.dname, .string q.left.p, .int .i64 q.left.n, .string q.right.p, .int .i64 q.right.n, .slice q.a1 q.dels.length q.c1, .int .i64 q.first, .slice q.a2 q.lines.length q.c2] 2 (Nat.le_refl _) (by decide) rfl
  have hb : Below w.heap.size w (w.alloc (.cells #[.int .i64 x.kind, .string x.self.p, .int .i64 x.self.n, .string x.parent.p, .int .i64 x.parent.n, .string x.dst.p, .int .i64 x.dst.n, .string x.name, .string x.dname, .string x.left.p, .int .i64 x.left.n, .string x.right.p, .int .i64 x.right.n, .slice x.a1 x.dels.length x.c1, .int .i64 x.first, .slice x.a2 x.lines.length x.c2, .int .i64 q.kind, .string q.self.p, .int .i64 q.self.n, .string q.parent.p, .int .i64 q.parent.n, .string q.dst.p, .int .i64 q.dst.n, .string q.name, .string q.dname, .string q.left.p, .int .i64 q.left.n, .string q.right.p, .int .i64 q.right.n, .slice q.a1 q.dels.length q.c1, .int .i64 q.first, .slice q.a2 q.lines.length q.c2] 27)) := (Below.refl _ _).alloc (Nat.le_refl _) _
  refine ⟨hb, HO.parts.2.1, fun y hy => ?_⟩
  have e : y = x ∨ y = q := by simpa using hy
  rcases e with rfl | rfl
  · exact hx.on hb
  · exact hq.on hb
end Go.Proofs.YtideldgblafhlaaDoor
namespace Go.Proofs.YtideldgblafhlaaDoor
open Go.RowKit
set_option linter.unusedVariables false

theorem Rk.size_of {α : Type} (R : Rk α) (W : World) : (sizeOf R.ty).run Tryd.prog W = .ok R.k W := by
  obtain ⟨i, hi, _, hs, _⟩ := R.info_of
  simp [sizeOf, typeInfo, hi, hs, Sem.run_bind]
theorem Rk.idx {α : Type} (R : Rk α) (he : Tryd.prog.elem R.tys = R.ty) {A : Option Addr} {b off n c k : Nat} (e : A = some ⟨b, off, none⟩) (hk : k < n) (W : World) : (Instr.indexAt R.tys (.slice A n c) (.int .i64 (k : Int))).run Tryd.prog W = .ok (.pointer (some ⟨b, off + k * R.k, none⟩)) W := by
  subst e
  have hu : Tryd.prog.underlying R.tys = some (.slice (Tryd.prog.elem R.tys)) := by rw [he]; exact R.und
  rw [run_indexAt_slice (h := hu), if_pos (by omega), he, R.size_of, Result.andThen_ok]
  have e2 : (⟨b, off, none⟩ : Addr).add ((k : Int).toNat * R.k) = ⟨b, off + k * R.k, none⟩ := by unfold Addr.add; split <;> simp_all
  rw [e2]
theorem i2_indexAt {A : Option Addr} {b off n c k : Nat} (e : A = some ⟨b, off, none⟩) (hk : k < n) (W : World) : (Instr.indexAt 43 (.slice A n c) (.int .i64 (k : Int))).run Tryd.prog W = .ok (.pointer (some ⟨b, off + k * 2, none⟩)) W := i2R.idx (by kernel_rfl) e hk W
theorem i2_get {w : World} {B : Nat} {A : Option Addr} {l : List (Int × Int)} (h : i2R.Row w B A l) {j : Nat} (hj : j < l.length) : ∃ b off, A = some ⟨b, off, none⟩ ∧ b < B ∧ w.rangeAt b (off + j * 2) [.int .i64 l[j].1, .int .i64 l[j].2] := by
  obtain ⟨b, off, e, hlt, hc⟩ := h.get hj
  exact ⟨b, off, e, hlt, fun r u hu => hc r u hu⟩
theorem wpList_load_i2 {ops : Array Oper} {rest : List Oper} {op : Oper} {a : Act} {w : World} {Q : Exit → Act → World → Prop} (x : Operand) (b o : Nat) (c d : Int) (hz : w.rangeAt b o [.int .i64 c, .int .i64 d]) (ho : op.op = .load 45 x) (hw : Region.wanted op (yielded ops a.tmps) = true)
    (hx : a.eval x = .pointer (some ⟨b, o, none⟩)) (h : wpList Tryd.prog ops Q rest (a.put op.dst (.agg #[.int .i64 c, .int .i64 d])) w) : wpList Tryd.prog ops Q (op :: rest) a w :=
  wpList_step fun K hK => by
    simp only [hw, if_true]
    exact wp_load_mid 45 x ho b o hx [.int .i64 c, .int .i64 d] _ hz Tryd.underlying45 rfl (by kernel_rfl) (hK _ _ h)
theorem info_is (t : TypeId) (h : (Tryd.prog.info? t).isSome = true) : ∃ i, Tryd.prog.info? t = some i := by
  cases h2 : Tryd.prog.info? t with
  | some i => exact ⟨i, rfl⟩
  | none => rw [h2] at h; cases h
theorem cells_int : Tryd.prog.cellsOf 3 = 1 := by kernel_rfl
set_option maxRecDepth 100000 in
theorem eqin_i2 (a b c d : Int) (w : World) : (Op.equalIn 10000 45 (.agg #[.int .i64 a, .int .i64 b]) (.agg #[.int .i64 c, .int .i64 d])).run Tryd.prog w = .ok (decide (a = c ∧ b = d)) w := by
  obtain ⟨i, hi⟩ := info_is 3 (by kernel_rfl)
  rw [show (10000 : Nat) = 9999 + 1 from rfl, run_equalIn_array w 9999 _ _ Tryd.underlying45 hi, cells_int]
  rw [show List.range 2 = [0, 1] from rfl]
  by_cases h1 : a = c <;> by_cases h2 : b = d
  all_goals simp [Op.eqItems, Sem.run_bind, part, go_sem, Result.andThen_ok, *]
theorem eql_i2 (a b c d : Int) (w : World) : (binOp .eql 45 (.agg #[.int .i64 a, .int .i64 b]) (.agg #[.int .i64 c, .int .i64 d])).run Tryd.prog w = .ok (.bool (decide (a = c ∧ b = d))) w := by
  rw [run_eql_struct, eqin_i2, Result.andThen_ok]
end Go.Proofs.YtideldgblafhlaaDoor
namespace Go.Proofs.YtideldgblafhlaaDoor
open Go.RowKit
set_option linter.unusedVariables false

/-- Does b stand at a's ends, or among what goes of a? -/
def heldO (a : OpK) (x : Ik) : Bool := decide (x = a.left) || decide (x = a.right) || decide (x ∈ a.dels)
def cutO (a b : OpK) : Bool := decide (b.left = a.left) || decide (b.right = a.right) || decide (b.left ∈ a.dels) || decide (b.right ∈ a.dels) || b.dels.any (heldO a)
/-- Does the hunk h change lines of what o lets go? -/
def losesO (h o : OpK) : Bool := decide (h.kind = 5) && decide (o.kind = 3) && decide (h.self = o.self)
def takesO (o : OpK) : Bool := decide (o.kind = 3) || decide (o.kind = 4)
def byLinesO (a b : OpK) : Int := if (decide (b.kind = 5) && decide (b.self = a.self) && cutO a b) = true then 1 else if losesO a b = true then 2 else 0
def goneO (a b : OpK) : Bool := decide (a.kind = 3) && inPl b a
def byPlacesO (a b : OpK) : Int :=
  if losesO b a = true then 2 else if samePl a b = true then 3 else if (takesO a && takesO b && decide (a.self = b.self)) = true then 4 else if (goneO a b || goneO b a) = true then 5 else 0
theorem cutO_is (a b : OpK) : cutO a b = hunksC a b := by
  rw [Bool.eq_iff_iff]
  unfold cutO hunksC touchO meetI heldO
  simp only [Bool.or_eq_true, List.any_eq_true, decide_eq_true_eq]
  constructor
  · rintro ((((h | h) | h) | h) | ⟨x, hx, (h | h) | h⟩)
    · exact .inl (.inl (.inl h.symm))
    · exact .inl (.inl (.inr h.symm))
    · exact .inl (.inr (.inl (.inl h)))
    · exact .inl (.inr (.inl (.inr h)))
    · exact .inr (.inl (.inl (h ▸ hx)))
    · exact .inr (.inl (.inr (h ▸ hx)))
    · exact .inr (.inr ⟨x, hx, h⟩)
  · rintro (((h | h) | ((h | h) | ⟨x, h1, h2⟩)) | ((h | h) | ⟨x, h1, h2⟩))
    · exact .inl (.inl (.inl (.inl h.symm)))
    · exact .inl (.inl (.inl (.inr h.symm)))
    · exact .inl (.inl (.inr h))
    · exact .inl (.inr h)
    · exact .inr ⟨x, h2, .inr h1⟩
    · exact .inr ⟨_, h, .inl (.inl rfl)⟩
    · exact .inr ⟨_, h, .inl (.inr rfl)⟩
    · exact .inr ⟨x, h1, .inr h2⟩
theorem places_hunk {a : OpK} (h : a.kind = 5) : placesO a = [] := if_pos (.inr (by omega))
theorem clash_lines (a b : OpK) (h : a.kind = 5) : clashO a b = byLinesO a b := by
  have h3 : ¬ a.kind = 3 := by omega
  have h4 : ¬ a.kind = 4 := by omega
  have p := places_hunk h
  unfold clashO byLinesO losesO
  have s1 : samePl a b = false := by unfold samePl; rw [p]; rfl
  have s2 : inPl a b = false := by unfold inPl; rw [p]; rfl
  rw [cutO_is, s1, s2]
  by_cases e : a.self = b.self <;> by_cases k5 : b.kind = 5 <;> by_cases k3 : b.kind = 3 <;> cases hunksC a b <;> simp [h, e, k5, k3]
  all_goals try omega
  all_goals exact fun h => absurd h.symm e
theorem clash_places (a b : OpK) (h : ¬ a.kind = 5) : clashO a b = byPlacesO a b := by
  unfold clashO byPlacesO losesO takesO goneO
  cases samePl a b <;> cases inPl a b <;> cases inPl b a <;> by_cases e : a.self = b.self <;> by_cases k3 : a.kind = 3 <;> by_cases k4 : a.kind = 4 <;> by_cases b3 : b.kind = 3 <;> by_cases b4 : b.kind = 4 <;> by_cases b5 : b.kind = 5 <;> simp [h, e, k3, k4, b3, b4, b5]
  all_goals try omega
  all_goals exact fun h => absurd h.symm e
/-- The pairs of places of what clashes, and why, as they come. -/
def whysR (a : OpK) (i k : Nat) : List OpK → List ((Nat × Nat) × Int)
  | [] => []
  | b :: r => (if clashO a b = 0 then [] else [((i, k), clashO a b)]) ++ whysR a i (k + 1) r
def whysG (q : List OpK) (i : Nat) : List OpK → List ((Nat × Nat) × Int)
  | [] => []
  | a :: r => whysR a i 0 q ++ whysG q (i + 1) r
theorem whysR_fst (a : OpK) (i : Nat) : ∀ (k : Nat) (q : List OpK), (whysR a i k q).map (fun z => z.1) = rowC a i k q
  | k, [] => rfl
  | k, b :: r => by
    unfold whysR rowC
    rw [List.map_append, whysR_fst a i (k + 1) r]
    split <;> rfl
theorem whysG_fst (q : List OpK) : ∀ (i : Nat) (p : List OpK), (whysG q i p).map (fun z => z.1) = pairsG q i p
  | i, [] => rfl
  | i, a :: r => by
    unfold whysG pairsG
    rw [List.map_append, whysG_fst q (i + 1) r, whysR_fst]
theorem whysR_head (a : OpK) (i : Nat) : ∀ (k : Nat) (q : List OpK), (whysR a i k q).head?.elim 0 (fun z => z.2) = firstC a q
  | k, [] => rfl
  | k, b :: r => by
    unfold whysR firstC
    by_cases h : clashO a b = 0
    · rw [if_pos h, if_pos h, List.nil_append]
      exact whysR_head a i (k + 1) r
    · rw [if_neg h, if_neg h]
      rfl
theorem whysR_nil (a : OpK) (i : Nat) : ∀ (k : Nat) (q : List OpK), whysR a i k q = [] ↔ firstC a q = 0
  | k, [] => by simp [whysR, firstC]
  | k, b :: r => by
    unfold whysR firstC
    by_cases h : clashO a b = 0
    · rw [if_pos h, if_pos h, List.nil_append]
      exact whysR_nil a i (k + 1) r
    · rw [if_neg h, if_neg h]
      simp [h]
theorem whysG_head (q : List OpK) : ∀ (i : Nat) (p : List OpK), (whysG q i p).head?.elim 0 (fun z => z.2) = patchesC p q
  | i, [] => rfl
  | i, a :: r => by
    unfold whysG patchesC
    by_cases h : firstC a q = 0
    · rw [if_pos h, (whysR_nil a i 0 q).2 h, List.nil_append]
      exact whysG_head q (i + 1) r
    · rw [if_neg h, ← whysR_head a i 0 q]
      cases e : whysR a i 0 q with
      | nil => exact absurd ((whysR_nil a i 0 q).1 e) h
      | cons z l => rfl
theorem whysR_app (a : OpK) (i : Nat) : ∀ (k : Nat) (q r : List OpK), whysR a i k (q ++ r) = whysR a i k q ++ whysR a i (k + q.length) r
  | k, [], r => by simp [whysR]
  | k, b :: q, r => by
    simp only [List.cons_append, whysR, whysR_app a i (k + 1) q r, List.length_cons, List.append_assoc]
    rw [show k + 1 + q.length = k + (q.length + 1) from by omega]
theorem whysG_app (q : List OpK) : ∀ (i : Nat) (p r : List OpK), whysG q i (p ++ r) = whysG q i p ++ whysG q (i + p.length) r
  | i, [], r => by simp [whysG]
  | i, a :: p, r => by
    simp only [List.cons_append, whysG, whysG_app q (i + 1) p r, List.length_cons, List.append_assoc]
    rw [show i + 1 + p.length = i + (p.length + 1) from by omega]
theorem whysR_take (a : OpK) (i : Nat) (q : List OpK) (k : Nat) (h : k < q.length) : whysR a i 0 (q.take (k + 1)) = whysR a i 0 (q.take k) ++ (if clashO a q[k] = 0 then [] else [((i, k), clashO a q[k])]) := by
  rw [List.take_succ_eq_append_getElem h, whysR_app, List.length_take, Nat.min_eq_left (by omega)]
  simp [whysR]
theorem whysG_take (p q : List OpK) (k : Nat) (h : k < p.length) : whysG q 0 (p.take (k + 1)) = whysG q 0 (p.take k) ++ whysR p[k] k 0 q := by
  rw [List.take_succ_eq_append_getElem h, whysG_app, List.length_take, Nat.min_eq_left (by omega)]
  simp [whysG]
/-- What came when i rounds of the first, and k of the second are over. -/
def soFar (p q : List OpK) (i k : Nat) : List ((Nat × Nat) × Int) := whysG q 0 (p.take i) ++ (p[i]?.elim [] fun a => whysR a i 0 (q.take k))
theorem soFar_zero (p q : List OpK) : soFar p q 0 0 = [] := by
  unfold soFar
  cases p <;> simp [whysG, whysR]
theorem soFar_step (p q : List OpK) (i k : Nat) (hi : i < p.length) (hk : k < q.length) : soFar p q i (k + 1) = soFar p q i k ++ (if clashO p[i] q[k] = 0 then [] else [((i, k), clashO p[i] q[k])]) := by
  unfold soFar
  rw [List.getElem?_eq_getElem hi]
  simp only [Option.elim]
  rw [whysR_take _ _ _ _ hk, List.append_assoc]
theorem soFar_row (p q : List OpK) (i : Nat) (hi : i < p.length) : soFar p q i q.length = soFar p q (i + 1) 0 := by
  unfold soFar
  rw [List.getElem?_eq_getElem hi, whysG_take p q i hi, List.take_length]
  simp only [Option.elim]
  cases p[i + 1]? <;> simp [whysR]
theorem soFar_end (p q : List OpK) : soFar p q p.length 0 = whysG q 0 p := by
  unfold soFar
  simp
theorem whysG_len (q : List OpK) (p : List OpK) : (whysG q 0 p).length ≤ p.length * q.length := by
  rw [← List.length_map (f := fun z => z.1), whysG_fst]
  exact pairsG_len q 0 p
theorem soFar_pre (p q : List OpK) (i k : Nat) (hi : i < p.length) (hk : k ≤ q.length) : ∃ r, whysG q 0 p = soFar p q i k ++ r := by
  refine ⟨whysR p[i] i (q.take k).length (q.drop k) ++ whysG q (i + 1) (p.drop (i + 1)), ?_⟩
  unfold soFar
  rw [List.getElem?_eq_getElem hi]
  simp only [Option.elim]
  have h1 : whysG q 0 p = whysG q 0 (p.take i) ++ whysG q (0 + (p.take i).length) (p.drop i) := by rw [← whysG_app, List.take_append_drop]
  rw [h1, List.drop_eq_getElem_cons hi, List.length_take, Nat.min_eq_left (by omega)]
  have h2 : whysR p[i] i 0 q = whysR p[i] i 0 (q.take k) ++ whysR p[i] i (0 + (q.take k).length) (q.drop k) := by rw [← whysR_app, List.take_append_drop]
  simp only [whysG, Nat.zero_add] at h2 ⊢
  rw [h2, List.append_assoc, List.append_assoc]
end Go.Proofs.YtideldgblafhlaaDoor
namespace Go.Proofs.YtideldgblafhlaaDoor
open Go.RowKit
open Go.Maps (Keyed IsMap)
set_option linter.unusedVariables false

theorem idkey_laid : laidOutB Tryd.prog = true := by kernel_rfl
theorem idkey_lt : decide (23 < Tryd.prog.types.size) = true := by kernel_rfl
theorem idkey_row : (23 : TypeId) < Tryd.prog.types.size := of_decide_eq_true idkey_lt
theorem idkey_wide : (match Tryd.prog.underlying 23 with | some (.array _ _) | some (.struct _) => true | _ => false) = true := by rw [Tryd.underlying23]
theorem idkey_at : Tryd.prog.keyTypeAt 3 23 = true := by kernel_rfl
theorem idkey_law {P : Program} {k : TypeId} (h1 : laidOutB P = true) (h2 : k < P.types.size) (h3 : P.keyTypeAt 3 k = true) (h4 : (match P.underlying k with | some (.array _ _) | some (.struct _) => true | _ => false) = true) : Keyed P k := Keyed.of_law (deep_law_laid h1 (m := 3) (by decide) h2 h3 h4)
theorem idK : Keyed Tryd.prog 23 := idkey_law idkey_laid idkey_row idkey_at idkey_wide
theorem idkey_type : Tryd.prog.keyType 23 = true := by kernel_rfl
theorem idkey_cells : Tryd.prog.cellsOf 23 = 2 := by kernel_rfl
theorem idkey_c1 : Tryd.prog.cellsOf 9 = 1 := by kernel_rfl
theorem idkey_c2 : Tryd.prog.cellsOf 3 = 1 := by kernel_rfl
theorem idkey_formed (x : Im) : (Value.agg #[.string x.p, .int .i64 x.n]).formed Tryd.prog 23 = true := by simp [Value.formed, Tryd.underlying23, idkey_cells]
theorem size_succ {n k : Nat} (h : k < n) : ∃ m, n = m + 1 := ⟨n - 1, by omega⟩
theorem idkey_size : ∃ m, Tryd.prog.types.size = m + 1 := size_succ idkey_row
theorem idkey_und : Tryd.prog.underlying 92 = some (.map 23 93) := Tryd.underlying92
theorem idkey_zero (w : World) : (zeroValue 93).run Tryd.prog w = .ok (.agg #[]) w := by kernel_rfl
/-- An id is a key. -/
theorem id_keyOf (x : Im) (hx : x.Ok) : ∃ kl, keyOf Tryd.prog 23 (.agg #[.string x.p, .int .i64 x.n]) = some kl := by
  obtain ⟨m, hm⟩ := idkey_size
  have h1 : x.p.size ≤ maxLen := by have := hx.1; unfold maxLen; omega
  have h2 : (Lit.int .i64 x.n).wf = true := WalkArith.wf_i64 hx.2
  unfold keyOf
  rw [Tryd.underlying23]
  simp only [idkey_type, idkey_formed, Bool.and_self, if_true, hm]
  simp [Program.keyLits, Tryd.underlying23, Tryd.underlying9, Tryd.underlying3, idkey_cells, idkey_c1, idkey_c2, Value.cells, h1, h2]
theorem id_keyLit (x : Im) : ∃ kl, x.Ok → keyOf Tryd.prog 23 (.agg #[.string x.p, .int .i64 x.n]) = some kl := by
  by_cases hx : x.Ok
  · obtain ⟨kl, h⟩ := id_keyOf x hx
    exact ⟨kl, fun _ => h⟩
  · exact ⟨.bool true, fun h => absurd h hx⟩
noncomputable def idLit (x : Im) : Lit := Classical.choose (id_keyLit x)
theorem idLit_is (x : Im) (hx : x.Ok) : keyOf Tryd.prog 23 (.agg #[.string x.p, .int .i64 x.n]) = some (idLit x) := Classical.choose_spec (id_keyLit x) hx
theorem key_lit {P : Program} {k : TypeId} (K : Keyed P k) {v : Value} {l : Lit} (h : keyOf P k v = some l) : WideAt.IsKeyLit l := K.key h
theorem idLit_key (x : Im) (hx : x.Ok) : WideAt.IsKeyLit (idLit x) := by
  have h := idLit_is x hx
  generalize idLit x = l at *
  exact key_lit idK h
theorem idLit_inj {x y : Im} (hx : x.Ok) (hy : y.Ok) (h : idLit x = idLit y) : x = y := by
  have h1 := idLit_is x hx
  rw [h] at h1
  have h2 := idK.inj h1 (idLit_is y hy)
  obtain ⟨p, n⟩ := x
  obtain ⟨q, m⟩ := y
  simp only [Value.agg.injEq, Array.mk.injEq, List.cons.injEq, Value.string.injEq, Value.int.injEq, true_and, and_true] at h2
  rw [h2.1, h2.2]
theorem has_self {D : DataW Unit} (hD : IsMap D) (y : Im) (hy : y.Ok) : Maps.has (D.put (idLit y) (.agg [])) (idLit y) = true := by
  have hk := idLit_key y hy
  generalize idLit y = ky at *
  exact Maps.has_put_same hD hk _
/-- Block b is a map whose keys are these ids. -/
def IdSet (w : World) (b : Nat) (l : List Ik) : Prop := ∃ (n : Nat) (D : DataW Unit), n ≤ l.length ∧ w.ownsMap Tryd.prog 23 unitElem b n D ∧ ∀ x : Im, x.Ok → Maps.has D (idLit x) = decide (x.key ∈ l)
theorem IdSet.made (w : World) : IdSet (w.alloc (.map #[] 0)) w.heap.size [] :=
  ⟨0, .map [], Nat.le_refl _, World.ownsMap_made _ _ _ _, fun x _ => by simp [Maps.has_eq]⟩
theorem IdSet.lt {w : World} {b : Nat} {l : List Ik} (h : IdSet w b l) : b < w.heap.size := by
  obtain ⟨n, D, _, ho, _⟩ := h
  exact ho.lt
theorem IdSet.grown {w w' : World} {b : Nat} {l : List Ik} {row : Option Nat} (h : IdSet w b l) (hg : w.grownBy w' row) (hr : row ≠ some b) : IdSet w' b l := by
  obtain ⟨n, D, hn, ho, hh⟩ := h
  exact ⟨n, D, hn, ho.kept hg (fun e => hr e.symm), hh⟩
theorem IdSet.on {w w' : World} {b : Nat} {l : List Ik} (h : IdSet w b l) (hb : Below w.heap.size w w') : IdSet w' b l :=
  h.grown (row := none) ⟨hb.os, hb.tape, hb.output, hb.size, fun i hi _ => hb.block i hi⟩ (by simp)
theorem wpList_look_id {w : World} {ops : Array Oper} {rest : List Oper} {o : Oper} {a : Act} {Q : Exit → Act → World → Prop} (hg : o.guard = none) (m x : Operand) (hop : o.op = Op.lookup 92 m x true)
    (b : Nat) (l : List Ik) (y : Im) (hm : a.eval m = .map (some b)) (hx : a.eval x = .agg #[.string y.p, .int .i64 y.n]) (hs : IdSet w b l) (hy : y.Ok) (r : Bool) (hr : decide (y.key ∈ l) = r)
    (hK : wpList Tryd.prog ops Q rest (a.put o.dst (.tuple #[.agg #[], .bool r])) w) : wpList Tryd.prog ops Q (o :: rest) a w := by
  obtain ⟨n, D, hn, ho, hh⟩ := hs
  refine wpList_lookup_own_unit w hg m x _ hop _ _ idK idkey_und (idkey_zero w) b n D hm ho _ (idLit y) hx (idLit_is y hy) ?_
  rw [hh y hy, hr]
  exact hK
theorem wpList_put_id {w : World} {ops : Array Oper} {rest : List Oper} {o : Oper} {a : Act} {Q : Exit → Act → World → Prop} (hg : o.guard = none) (m x v : Operand) (hop : o.op = Op.mapUpdate 92 m x v)
    (b : Nat) (l : List Ik) (y : Im) (hm : a.eval m = .map (some b)) (hx : a.eval x = .agg #[.string y.p, .int .i64 y.n]) (hv : a.eval v = .agg #[]) (hs : IdSet w b l) (hy : y.Ok) (hl : l.length ≤ 1000000000000)
    (hK : ∀ w', IdSet w' b (l ++ [y.key]) → w.grownBy w' (some b) → wpList Tryd.prog ops Q rest (a.put o.dst undef) w') : wpList Tryd.prog ops Q (o :: rest) a w := by
  obtain ⟨n, D, hn, ho, hh⟩ := hs
  refine wpList_mapUpdate_own w hg m x v _ hop _ _ idK idkey_und unitElem b n D hm ho (by unfold maxLen; omega) _ _ (idLit y) hx hv (idLit_is y hy) (.agg []) [] unitElem_mk ?_
  intro w' h1 h2
  refine hK w' ⟨n + 1, _, by rw [List.length_append]; simp; omega, h1, fun z hz => ?_⟩ h2
  by_cases e : z = y
  · subst e
    rw [has_self ho.isMap z hz]
    simp
  · rw [Maps.has_put_other (fun h => e (idLit_inj hz hy h)), hh z hz]
    simp only [List.mem_append, List.mem_singleton]
    exact decide_eq_decide.2 ⟨.inl, fun h => h.elim id (fun h2 => absurd (Im.key_inj h2) e)⟩
end Go.Proofs.YtideldgblafhlaaDoor
namespace Go.Proofs.YtideldgblafhlaaDoor
open Go.RowKit
set_option linter.unusedVariables false

/-- Places of the code, as records of three cells. -/
def clR : Rk Plm where
  ty := 50
  tys := 55
  k := 3
  bytes := 40
  zero := .agg #[.string ByteArray.empty, .int .i64 0, .string ByteArray.empty]
  enc := fun x => [.string x.dir.p, .int .i64 x.dir.n, .string x.name]
  len := fun _ => rfl
  one := fun x u hu => by
    simp only [List.mem_cons, List.not_mem_nil, or_false] at hu
    rcases hu with rfl | rfl | rfl <;> rfl
  pos := by decide
  small := by decide
  zsz := rfl
  info := by kernel_rfl
  und := Tryd.underlying55
theorem cl_get {w : World} {B : Nat} {A : Option Addr} {l : List Plm} (h : clR.Row w B A l) {j : Nat} (hj : j < l.length) : ∃ b off, A = some ⟨b, off, none⟩ ∧ b < B ∧ w.cell? ⟨b, off + j * 3, none⟩ = some (.string l[j].dir.p) ∧ w.cell? ⟨b, off + j * 3 + 1, none⟩ = some (.int .i64 l[j].dir.n) ∧ w.cell? ⟨b, off + j * 3 + 2, none⟩ = some (.string l[j].name) := by
  obtain ⟨b, off, e, hlt, hc⟩ := h.get hj
  exact ⟨b, off, e, hlt, hc 0 _ rfl, hc 1 _ rfl, hc 2 _ rfl⟩
/-- A place of its own. -/
abbrev ClAt (w : World) (g : Nat) (x : Plm) : Prop := clR.At w g x
theorem cl_box (w : World) (x : Plm) : Below w.heap.size w (w.alloc (.cells #[.string x.dir.p, .int .i64 x.dir.n, .string x.name] 50)) ∧ ClAt (w.alloc (.cells #[.string x.dir.p, .int .i64 x.dir.n, .string x.name] 50)) w.heap.size x := ⟨(Below.refl _ _).alloc (Nat.le_refl _) _, Rk.At.new_ (R := clR) w x⟩
theorem cl_c0 {w : World} {g : Nat} {x : Plm} (h : ClAt w g x) : w.cell? ⟨g, 0, none⟩ = some (.string x.dir.p) := h.cell (r := 0) rfl
theorem cl_c1 {w : World} {g : Nat} {x : Plm} (h : ClAt w g x) : w.cell? ⟨g, 1, none⟩ = some (.int .i64 x.dir.n) := h.cell (r := 1) rfl
theorem cl_c2 {w : World} {g : Nat} {x : Plm} (h : ClAt w g x) : w.cell? ⟨g, 2, none⟩ = some (.string x.name) := h.cell (r := 2) rfl
/-- Both places of an operation, in an array of its own. -/
def twoP (x : Om) : List Plm := [⟨x.parent, x.name⟩, ⟨x.dst, x.dname⟩]
def PlArr (w : World) (g : Nat) (x : Om) : Prop := w.heap[g]? = some (.cells #[.string x.parent.p, .int .i64 x.parent.n, .string x.name, .string x.dst.p, .int .i64 x.dst.n, .string x.dname] 51 (0, 0))
theorem PlArr.lt {w : World} {g : Nat} {x : Om} (h : PlArr w g x) : g < w.heap.size := (Array.getElem?_eq_some_iff.1 h).1
theorem PlArr.cell {w : World} {g : Nat} {x : Om} (h : PlArr w g x) {r : Nat} {u : Value} (hu : (clR.cells (twoP x))[r]? = some u) : w.cell? ⟨g, r, none⟩ = some u := by
  have hk : w.heap[g]? = _ := h
  have e : (clR.cells (twoP x))[r]? = (#[Value.string x.parent.p, .int .i64 x.parent.n, .string x.name, .string x.dst.p, .int .i64 x.dst.n, .string x.dname] : Array Value)[r]? := by rw [← Array.getElem?_toList]; rfl
  simp only [World.cell?, hk, Option.isSome_none, Bool.false_eq_true, if_false]
  rw [← e]
  exact hu
theorem PlArr.on {w w' : World} {g : Nat} {x : Om} (h : PlArr w g x) (hb : Below w.heap.size w w') : PlArr w' g x := (hb.block g h.lt).trans h
theorem PlArr.row {w : World} {g B : Nat} {x : Om} (h : PlArr w g x) (hB : g < B) : clR.Row w B (some ⟨g, 0, none⟩) (twoP x) := fun _ => ⟨g, 0, rfl, hB, fun i u hu => by rw [Nat.zero_add]; exact h.cell hu⟩
theorem plO_take (x : Om) : plO x = (twoP x).take (plO x).length := by
  unfold plO
  split
  · rfl
  · split <;> rfl
theorem PlArr.pls {w : World} {g B : Nat} {x : Om} (h : PlArr w g x) (hB : g < B) : clR.Row w B (some ⟨g, 0, none⟩) (plO x) := by
  rw [plO_take]
  exact (h.row hB).take _
theorem PlArr.new (w : World) (x : Om) : PlArr (w.alloc (.cells #[.string x.parent.p, .int .i64 x.parent.n, .string x.name, .string x.dst.p, .int .i64 x.dst.n, .string x.dname] 51)) w.heap.size x := World.alloc_heap_new w _
theorem arr_box (w : World) (x : Om) : Below w.heap.size w (w.alloc (.cells #[.string x.parent.p, .int .i64 x.parent.n, .string x.name, .string x.dst.p, .int .i64 x.dst.n, .string x.dname] 51)) ∧ PlArr (w.alloc (.cells #[.string x.parent.p, .int .i64 x.parent.n, .string x.name, .string x.dst.p, .int .i64 x.dst.n, .string x.dname] 51)) w.heap.size x := ⟨(Below.refl _ _).alloc (Nat.le_refl _) _, PlArr.new w x⟩
theorem pl_eqb (x y : Plm) : decide (x = y) = ((x.dir.p.toList == y.dir.p.toList) && ((x.dir.n == y.dir.n) && (x.name.toList == y.name.toList))) := by
  by_cases e : x = y
  · subst e
    simp
  · rw [decide_eq_false e]
    by_cases e1 : x.dir.p = y.dir.p
    · by_cases e2 : x.dir.n = y.dir.n
      · by_cases e3 : x.name = y.name
        · exact absurd (by obtain ⟨⟨p, n⟩, s⟩ := x; obtain ⟨⟨q, m⟩, t⟩ := y; simp_all) e
        · rw [str_ne e3]
          simp
      · simp [e2]
    · rw [str_ne e1]
      rfl
set_option maxRecDepth 100000 in
theorem eql_cl (x y : Plm) (w : World) : (binOp .eql 50 (.agg #[.string x.dir.p, .int .i64 x.dir.n, .string x.name]) (.agg #[.string y.dir.p, .int .i64 y.dir.n, .string y.name])).run Tryd.prog w = .ok (.bool (decide (x = y))) w := by
  rw [run_eql_struct, pl_eqb]
  cases h1 : (x.dir.p.toList == y.dir.p.toList) <;> cases h2 : (x.dir.n == y.dir.n) <;> cases h3 : (x.name.toList == y.name.toList) <;> simp [go_sem, h1, h2, h3]
/-- What a round leaves as it lay: all but pairs of numbers, and rows of them. -/
def mayKeep : Obj → Bool
  | .cells _ t _ => !decide (t = 45) && !decide (t = 43)
  | o => o.isWalk
structure KpT (n₀ : Nat) (W W' : World) : Prop where
  b : Below n₀ W W'
  s : W.heap.size ≤ W'.heap.size
  k : ∀ (k : Nat) (o : Obj), W.heap[k]? = some o → mayKeep o = true → W'.heap[k]? = some o
theorem KpT.refl (n₀ : Nat) (W : World) : KpT n₀ W W := ⟨Below.refl _ _, Nat.le_refl _, fun _ _ h _ => h⟩
theorem KpT.trans {n₀ : Nat} {X Y Z : World} (h : KpT n₀ X Y) (h2 : KpT n₀ Y Z) : KpT n₀ X Z := ⟨h.b.trans h2.b, Nat.le_trans h.s h2.s, fun k o hk ho => h2.k k o (h.k k o hk ho) ho⟩
theorem KpT.of {n₀ : Nat} {W W' : World} (h : Below W.heap.size W W') (hn : n₀ ≤ W.heap.size) : KpT n₀ W W' := ⟨h.mono hn, h.size, fun k o hk _ => (h.block k (Array.getElem?_eq_some_iff.1 hk).1).trans hk⟩
theorem kpT_put {n₀ : Nat} {w : World} (hn : n₀ ≤ w.heap.size) (W : World) (l : Nat) (o o' : Obj) (hl : w.heap.size ≤ l) (h : W.heap[l]? = some o) (h1 : o.isCells = false) (h2 : o.isWalk = false) : KpT n₀ W (W.putObj l o') :=
  ⟨belowK_b hn W l o o' hl h h1 h2, by simp, fun k o2 hk ho => by
    refine ((grownBy_putObj' W l o').block k (Array.getElem?_eq_some_iff.1 hk).1 (fun e => ?_)).trans hk
    cases e
    rw [h] at hk
    cases hk
    cases o <;> simp_all [mayKeep, Obj.isCells, Obj.isWalk]⟩
theorem KpT.box {n₀ : Nat} {W W' : World} (h : KpT n₀ W W') {g : Nat} {t : TypeId} {v : Value} (hb : Boxed W g t v) (h1 : t ≠ 45 := by decide) (h2 : t ≠ 43 := by decide) : Boxed W' g t v :=
  h.k g _ hb (by simp [mayKeep, h1, h2])
theorem bx_on {W W' : World} {B : Nat} {t : TypeId} {v : Value} (h : Boxed W B t v) (hb : Below W.heap.size W W') : Boxed W' B t v := (hb.block _ h.lt).trans h
/-- An operation lies there, its rows below n₀. -/
structure OpPl (W : World) (n₀ b o : Nat) (x : Om) : Prop where
  rng : W.rangeAt b o x.cells
  lt : b < n₀
  ok : x.Ok W n₀
theorem Om.Ok.below {x : Om} {W W' : World} {n₀ : Nat} (h : x.Ok W n₀) (hb : Below n₀ W W') : x.Ok W' n₀ := ⟨Rk.Row.below h.dels hb, h.room1, h.lines.below hb, h.room2⟩
theorem Om.Ok.more {x : Om} {W : World} {n₀ m : Nat} (h : x.Ok W n₀) (hm : n₀ ≤ m) : x.Ok W m := ⟨Rk.Row.more h.dels hm, h.room1, h.lines.more hm, h.room2⟩
theorem OpPl.below {x : Om} {W W' : World} {n₀ b o : Nat} (h : OpPl W n₀ b o x) (hb : Below n₀ W W') : OpPl W' n₀ b o x :=
  ⟨fun j v hv => (hb.cell (p := ⟨b, o + j, none⟩) h.lt).trans (h.rng j v hv), h.lt, h.ok.below hb⟩
theorem OpPl.kp {x : Om} {W W' : World} {n₀ b o : Nat} (h : OpPl W n₀ b o x) (hk : KpT n₀ W W') : OpPl W' n₀ b o x := h.below hk.b
/-- What lies there, cell by cell. -/
structure OpMc (w : World) (g o : Nat) (x : Om) : Prop where
  kind : w.cell? ⟨g, o, none⟩ = some (.int .i64 x.kind)
  selfp : w.cell? ⟨g, o + 1, none⟩ = some (.string x.self.p)
  selfn : w.cell? ⟨g, o + 2, none⟩ = some (.int .i64 x.self.n)
  parentp : w.cell? ⟨g, o + 3, none⟩ = some (.string x.parent.p)
  parentn : w.cell? ⟨g, o + 4, none⟩ = some (.int .i64 x.parent.n)
  dstp : w.cell? ⟨g, o + 5, none⟩ = some (.string x.dst.p)
  dstn : w.cell? ⟨g, o + 6, none⟩ = some (.int .i64 x.dst.n)
  name : w.cell? ⟨g, o + 7, none⟩ = some (.string x.name)
  dname : w.cell? ⟨g, o + 8, none⟩ = some (.string x.dname)
  leftp : w.cell? ⟨g, o + 9, none⟩ = some (.string x.left.p)
  leftn : w.cell? ⟨g, o + 10, none⟩ = some (.int .i64 x.left.n)
  rightp : w.cell? ⟨g, o + 11, none⟩ = some (.string x.right.p)
  rightn : w.cell? ⟨g, o + 12, none⟩ = some (.int .i64 x.right.n)
  dels : w.cell? ⟨g, o + 13, none⟩ = some (.slice x.a1 x.dels.length x.c1)
theorem OpPl.c {x : Om} {W : World} {n₀ b o : Nat} (h : OpPl W n₀ b o x) : OpMc W b o x :=
  ⟨h.rng 0 _ rfl, h.rng 1 _ rfl, h.rng 2 _ rfl, h.rng 3 _ rfl, h.rng 4 _ rfl, h.rng 5 _ rfl, h.rng 6 _ rfl, h.rng 7 _ rfl, h.rng 8 _ rfl, h.rng 9 _ rfl, h.rng 10 _ rfl, h.rng 11 _ rfl, h.rng 12 _ rfl, h.rng 13 _ rfl⟩
end Go.Proofs.YtideldgblafhlaaDoor
