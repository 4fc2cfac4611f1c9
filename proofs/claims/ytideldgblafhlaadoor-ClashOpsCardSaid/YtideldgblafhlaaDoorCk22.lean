/- The reference's Digits, Right, Text of ids. Operations, and rows of five ids, handed back out of a variable. What package clash's calls are to do. A whole operation read in a region that draws its order, or under a guard. Pairs in arrays held against each other; an element of a row of any records. -/
import Derived.Lib.SlicesCompact
import Derived.Test.YtideldgblafhlaaDoorShelf
import Derived.BigQuiet
import Derived.Deep.QuietTactic
import Derived.Test.YtideldgblafhlaaDoorProg
import Derived.WalkKit
import Derived.WalkSpells
import Derived.Handy
import Derived.Lib.Hide
import Derived.Shelf.Strings.BuilderK
import Derived.Deep.RegionHeld
import Derived.ChangeKeysEq
import Derived.Deep.MidRow
import Derived.Test.YtideldgblafhlaaDoorCk11
namespace Go.Proofs.YtideldgblafhlaaDoor
open Go.RowKit
set_option linter.unusedVariables false

theorem toB_app (a b : List UInt8) : toB a ++ toB b = toB (a ++ b) := by
  apply bytes_inj
  simp [toB]
set_option maxHeartbeats 2000000 in
set_option maxRecDepth 100000 in
theorem refdigit_any (n : Nat) (h : n < 10) (w : World) : Calls Tryd.prog 20 #[.int .i64 (n : Int)] w fun e w' => e = .returned (.string (toB [48 + UInt8.ofNat n])) ∧ w' = w := by
  have hc : n = 0 ∨ n = 1 ∨ n = 2 ∨ n = 3 ∨ n = 4 ∨ n = 5 ∨ n = 6 ∨ n = 7 ∨ n = 8 ∨ n = 9 := by omega
  rcases hc with rfl | rfl | rfl | rfl | rfl | rfl | rfl | rfl | rfl | rfl
  all_goals
    go_enter Tryd.func20, Tryd.ntmps20
    go_wp2
    go_ret
    exact ⟨rfl, rfl⟩
set_option maxHeartbeats 2000000 in
set_option maxRecDepth 100000 in
theorem refdigits_any : ∀ (m n : Nat), n < m → n ≤ 4611686018427387904 → ∀ w, Calls Tryd.prog 20 #[.int .i64 (n : Int)] w fun e w' => e = .returned (.string (toB (digits n))) ∧ w' = w
  | 0, n, h, _, w => absurd h (by omega)
  | m + 1, n, h, hb, w => by
    by_cases hs : n < 10
    · rw [digits_lt hs]
      exact refdigit_any n hs w
    · have c1 := fun w => refdigits_any m (n / 10) (by omega) (by omega) w
      have c2 := fun w => refdigit_any (n % 10) (Nat.mod_lt _ (by omega)) w
      rw [show ((n / 10 : Nat) : Int) = (n : Int) / 10 by omega] at c1
      rw [show ((n % 10 : Nat) : Int) = (n : Int) % 10 by omega] at c2
      have C1 := Lib.hid c1
      have C2 := Lib.hid c2
      clear c1 c2
      have hd : Hid (toB (digits (n / 10)) ++ toB [48 + UInt8.ofNat (n % 10)] = toB (digits n)) := by
        show _ = _
        rw [toB_app, ← digits_ge hs]
      have z1 : ¬ 9223372036854775807 < (toB (digits (n / 10))).size + (toB [48 + UInt8.ofNat (n % 10)]).size := by
        rw [toB_size, toB_size]
        have := digits_len (n / 10)
        simp only [List.length_cons, List.length_nil]
        omega
      have q1 : (10 : Int) ≤ (n : Int) := by omega
      have q2 : ¬ (n : Int) < 10 := by omega
      go_enter Tryd.func20, Tryd.ntmps20
      go_wp2_with fail
      refine (C1.out _).mono ?_
      rintro e w1 ⟨rfl, h1⟩
      subst h1
      go_wp2_with fail
      refine (C2.out _).mono ?_
      rintro e w1 ⟨rfl, h1⟩
      subst h1
      go_wp2
      go_ret
      rw [← hd.out]
      exact ⟨rfl, rfl⟩
set_option maxHeartbeats 2000000 in
set_option maxRecDepth 100000 in
theorem refitext_any (x : Im) (w : World) (ox : x.p.size ≤ 1000000) :
    Calls Tryd.prog 9 #[x.val] w fun e w' => e = .returned (.string (toB (textI (fun l => rightB (toB l)) x.key))) ∧ Below w.heap.size w w' := by
  obtain ⟨hb, hx⟩ := id_box w x
  have HB := Lib.hid hb
  have HX := Lib.hid hx
  have CR := Lib.hid (refiright_any x (w.alloc (.cells #[.string x.p, .int .i64 x.n] 23)) (by omega))
  have c0 := id_c0 hx
  have c1 := id_c1 hx
  clear hb hx
  unfold textI
  cases hk : okI (fun l => rightB (toB l)) x.key
  · rw [hk] at CR
    unfold Im.val at CR ⊢
    rw [if_neg (by simp)]
    go_enter Tryd.func9, Tryd.ntmps9
    go_wp2_with fail
    refine CR.out.mono ?_
    rintro e w1 ⟨rfl, hb⟩
    have HF := Lib.hid (HB.out.trans (hb.mono HB.out.size))
    clear hb CR
    go_wp2
    go_ret
    exact ⟨rfl, HF.out⟩
  · rw [hk] at CR
    rw [if_pos rfl]
    have hn : 0 ≤ x.n ∧ x.n ≤ 1048576 := by
      unfold okI at hk
      split at hk
      · have := of_decide_eq_true hk
        show 0 ≤ x.key.2 ∧ x.key.2 ≤ 1048576
        omega
      · have := (Bool.and_eq_true_iff.1 hk).2
        exact of_decide_eq_true this
    obtain ⟨m, hm⟩ : ∃ m : Nat, x.n = (m : Int) := ⟨x.n.toNat, by omega⟩
    have CD := Lib.hid (fun w => refdigits_any (m + 1) m (by omega) (by omega) w)
    have hv : Hid (x.p ++ ⟨#[35]⟩ ++ toB (digits m) = toB (x.key.1 ++ 35 :: digits x.key.2.toNat)) := by
      show _ = _
      apply bytes_inj
      have e : x.key.2.toNat = m := by show x.n.toNat = m; omega
      rw [e, of_toB]
      simp [Im.key, toB]
    rw [← hv.out]
    unfold Im.val at CR ⊢
    rw [hm] at CR c1 ⊢
    rw [hm] at HB HX
    have HM := Lib.hid hm
    have hs0 : (⟨#[35]⟩ : ByteArray).size = 1 := rfl
    have z0 := digits_len m
    have z1 : ¬ 9223372036854775807 < x.p.size + 1 := by omega
    have z2 : ¬ 9223372036854775807 < x.p.size + 1 + (toB (digits m)).size := by rw [toB_size]; omega
    have z3 : ¬ 9223372036854775807 < (x.p ++ ⟨#[35]⟩).size + (toB (digits m)).size := by rw [toB_size, ByteArray.size_append, hs0]; omega
    clear hv hk hn hm
    go_enter Tryd.func9, Tryd.ntmps9
    go_wp2_with fail
    refine CR.out.mono ?_
    rintro e w1 ⟨rfl, hb⟩
    have HF := Lib.hid (HB.out.trans (hb.mono HB.out.size))
    have hx1 := HX.out.on hb
    have hq : ∀ q, Hid (Below w.heap.size w (w1.drewN q)) := fun q => below_drewN HF.out q
    have d0 := id_c0 hx1
    have d1 := id_c1 hx1
    rw [HM.out] at d1
    clear hb CR HF c0 c1
    go_wp2
    go_quiet ((go_at_call 20; exact Calls.quiet_of_same (CD.out _)))
    go_wp2
    go_ret
    exact ⟨rfl, (hq _).out⟩
end Go.Proofs.YtideldgblafhlaaDoor
namespace Go.Proofs.YtideldgblafhlaaDoor
open Go.RowKit
set_option linter.unusedVariables false

theorem load_op {w : World} {g : Nat} {x : Om} (k : OpAt w g x) : (loadVar 27 ⟨g, 0, none⟩).run Tryd.prog w = .ok x.val w :=
  run_loadVar_row w g 27 27 x.cells.toArray (0, 0) _ k Tryd.underlying27 rfl sized_op
end Go.Proofs.YtideldgblafhlaaDoor
namespace Go.Proofs.YtideldgblafhlaaDoor
open Go.RowKit
set_option linter.unusedVariables false

theorem placesT_len (x : Om) : (placesT x).length = (plO x).length := by
  unfold placesT
  rw [List.length_map, ← plO_keys, pls_len]
end Go.Proofs.YtideldgblafhlaaDoor
namespace Go.Proofs.YtideldgblafhlaaDoor
open Go.RowKit
set_option linter.unusedVariables false

theorem yields_load_op {ops : Array Oper} {S : World → Prop} {o : Oper} {a : Act} (hw : Region.wanted o (yielded ops a.tmps) = true) (x : Operand) (ho : o.op = .load 27 x) (g : Nat) (z : Om) (hx : a.eval x = .pointer (some ⟨g, 0, none⟩)) (hz : ∀ W, S W → OpAt W g z) :
    YieldsIf Tryd.prog ops S o (.agg #[.int .i64 z.kind, .string z.self.p, .int .i64 z.self.n, .string z.parent.p, .int .i64 z.parent.n, .string z.dst.p, .int .i64 z.dst.n, .string z.name, .string z.dname, .string z.left.p, .int .i64 z.left.n, .string z.right.p, .int .i64 z.right.n, .slice z.a1 z.dels.length z.c1, .int .i64 z.first, .slice z.a2 z.lines.length z.c2]) a :=
  Or.inl ⟨hw, fun W hW => by
    unfold execOp
    simp only [ho, hx, Instr.loadAt, Instr.sureAddr, Sem.run_bind, Sem.run_pure, Result.andThen_ok, load_op (hz W hW)]
    try rfl⟩
end Go.Proofs.YtideldgblafhlaaDoor
namespace Go.Proofs.YtideldgblafhlaaDoor
open Go.RowKit
set_option linter.unusedVariables false

theorem pl_indexAt {A : Option Addr} {b off n c k : Nat} (e : A = some ⟨b, off, none⟩) (hk : k < n) (W : World) : (Instr.indexAt 33 (.slice A n c) (.int .i64 (k : Int))).run Tryd.prog W = .ok (.pointer (some ⟨b, off + k * 3, none⟩)) W := plR.idx (by kernel_rfl) e hk W
theorem s2_indexAt {A : Option Addr} {b off n c k : Nat} (e : A = some ⟨b, off, none⟩) (hk : k < n) (W : World) : (Instr.indexAt 31 (.slice A n c) (.int .i64 (k : Int))).run Tryd.prog W = .ok (.pointer (some ⟨b, off + k * 2, none⟩)) W := s2R.idx (by kernel_rfl) e hk W
theorem s2_get {w : World} {B : Nat} {A : Option Addr} {l : List (ByteArray × ByteArray)} (h : s2R.Row w B A l) {j : Nat} (hj : j < l.length) : ∃ b off, A = some ⟨b, off, none⟩ ∧ b < B ∧ w.rangeAt b (off + j * 2) [.string l[j].1, .string l[j].2] := by
  obtain ⟨b, off, e, hlt, hc⟩ := h.get hj
  exact ⟨b, off, e, hlt, fun r u hu => hc r u hu⟩
theorem yields_load_s2 {ops : Array Oper} {S : World → Prop} {o : Oper} {a : Act} (hw : Region.wanted o (yielded ops a.tmps) = true) (x : Operand) (ho : o.op = .load 35 x) (b off : Nat) (c d : ByteArray) (hx : a.eval x = .pointer (some ⟨b, off, none⟩)) (hz : ∀ W, S W → W.rangeAt b off [.string c, .string d]) :
    YieldsIf Tryd.prog ops S o (.agg #[.string c, .string d]) a :=
  yieldsIf_load_mid hw 35 x ho b off hx [.string c, .string d] _ hz Tryd.underlying35 rfl (by kernel_rfl)
theorem cells_str : Tryd.prog.cellsOf 9 = 1 := by kernel_rfl
set_option maxRecDepth 100000 in
theorem eqin_s2 (a b c d : ByteArray) (w : World) : (Op.equalIn 10000 35 (.agg #[.string a, .string b]) (.agg #[.string c, .string d])).run Tryd.prog w = .ok (decide (a = c ∧ b = d)) w := by
  obtain ⟨i, hi⟩ := info_is 9 (by kernel_rfl)
  rw [show (10000 : Nat) = 9999 + 1 from rfl, run_equalIn_array w 9999 _ _ Tryd.underlying35 hi, cells_str]
  rw [show List.range 2 = [0, 1] from rfl]
  by_cases h1 : a = c <;> by_cases h2 : b = d
  all_goals (try have q1 := str_ne h1); (try have q2 := str_ne h2)
  all_goals simp [Op.eqItems, Sem.run_bind, part, go_sem, Result.andThen_ok, *]
theorem neq_s2 (a b c d : ByteArray) (w : World) : (binOp .neq 35 (.agg #[.string a, .string b]) (.agg #[.string c, .string d])).run Tryd.prog w = .ok (.bool (!decide (a = c ∧ b = d))) w := by
  rw [run_neq_struct, eqin_s2, Result.andThen_ok]
end Go.Proofs.YtideldgblafhlaaDoor
