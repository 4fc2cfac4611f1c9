/- Package op: Get. Append to a row of records: where the new row lies; a row beside it stays. A whole operation read in a region that draws its order, or under a guard. Package patch: opsOf: the operations that bytes are. What a reader reads was laid so, in one way alone. -/
import Derived.BigRegion
import Derived.Deep.RegionWith
import Derived.BigQuiet
import Derived.Deep.QuietTactic
import Derived.Handy
import Derived.Maps.AppendAt
import Derived.Deep.RegionHeld
import Derived.Test.YtoajckhfnadhjaaGreatDoorCk15
import Derived.Test.YtoajckhfnadhjaaGreatDoorCk17
namespace Go.Proofs.YtoajckhfnadhjaaGreatDoor
open Go.RowKit
set_option linter.unusedVariables false

/-- What Get tells of bytes. -/
def GotK (s : ByteArray) (z : Om) (er : Int) : Prop := (er = 0 → mayO z.key = true ∧ toB (putO z.key) = s) ∧ (er ≠ 0 → z = zeroM ∧ ∀ k, mayO k = true → toB (putO k) ≠ s)
/-- .. its rows of the call's own. -/
def GetSep (s : ByteArray) (w : World) (e : Ending) (w' : World) : Prop := ∃ (z : Om) (er : Int), e = .returned (.tuple #[z.val, .int .i64 er]) ∧ Hid (GotK s z er) ∧ z.Sep w' w.heap.size ∧ Below w.heap.size w w'
theorem owns_lower {w : World} {B B' : Nat} {v : Value} {ls : List (List UInt8)} (h : OwnS w B v ls) (hB : B' ≤ B) : OwnS w B' v ls := by
  refine ⟨h.1, h.2.imp id ?_⟩
  rintro ⟨g, cap, cur, e, hb, r⟩
  exact ⟨g, cap, cur, e, by omega, r⟩
theorem Om.Sep.lower {z : Om} {w : World} {B B' : Nat} (h : z.Sep w B) (hB : B' ≤ B) : z.Sep w B' := ⟨Rk.Own.lower h.dels hB, owns_lower h.lines hB⟩
set_option maxHeartbeats 8000000 in
set_option maxRecDepth 100000 in
theorem opgets_own (s : ByteArray) (w : World) (hT : Tabs w) (hN : Nums w) (hs : s.size ≤ 500000) : Calls Tryz.prog 73 #[.string s] w (GetSep s w) := by
  obtain ⟨hb, hx⟩ := op_box w zeroM
  have HR := Lib.hid hx
  have HB := Lib.hid hb
  have HT := Lib.hid (Tabs.on hT hb)
  have HN := Lib.hid (hN.on hb)
  have hgl : w.heap.size < (w.alloc (.cells #[.int .i64 0, .string ⟨#[]⟩, .int .i64 0, .string ⟨#[]⟩, .int .i64 0, .string ⟨#[]⟩, .int .i64 0, .string ⟨#[]⟩, .string ⟨#[]⟩, .string ⟨#[]⟩, .int .i64 0, .string ⟨#[]⟩, .int .i64 0, .slice none 0 0, .int .i64 0, .slice none 0 0] 42)).heap.size := hx.lt
  have HN0 := Lib.hid hN
  have HT0 := Lib.hid hT
  clear hb hx hT hN
  go_enter Tryz.func73, Tryz.ntmps73
  go_upto_region 1 with (fail)
  have HR0 : Hid (OpAt (w.alloc (.cells #[.int .i64 0, .string ⟨#[]⟩, .int .i64 0, .string ⟨#[]⟩, .int .i64 0, .string ⟨#[]⟩, .int .i64 0, .string ⟨#[]⟩, .string ⟨#[]⟩, .string ⟨#[]⟩, .int .i64 0, .string ⟨#[]⟩, .int .i64 0, .slice none 0 0, .int .i64 0, .slice none 0 0] 42)) w.heap.size zeroM) := HR.out
  have HB0 : Hid (Below w.heap.size w (w.alloc (.cells #[.int .i64 0, .string ⟨#[]⟩, .int .i64 0, .string ⟨#[]⟩, .int .i64 0, .string ⟨#[]⟩, .int .i64 0, .string ⟨#[]⟩, .string ⟨#[]⟩, .string ⟨#[]⟩, .int .i64 0, .string ⟨#[]⟩, .int .i64 0, .slice none 0 0, .int .i64 0, .slice none 0 0] 42))) := HB.out
  have HT1 : Hid (Tabs (w.alloc (.cells #[.int .i64 0, .string ⟨#[]⟩, .int .i64 0, .string ⟨#[]⟩, .int .i64 0, .string ⟨#[]⟩, .int .i64 0, .string ⟨#[]⟩, .string ⟨#[]⟩, .string ⟨#[]⟩, .int .i64 0, .string ⟨#[]⟩, .int .i64 0, .slice none 0 0, .int .i64 0, .slice none 0 0] 42))) := HT.out
  have HN1 : Hid (Nums (w.alloc (.cells #[.int .i64 0, .string ⟨#[]⟩, .int .i64 0, .string ⟨#[]⟩, .int .i64 0, .string ⟨#[]⟩, .int .i64 0, .string ⟨#[]⟩, .string ⟨#[]⟩, .string ⟨#[]⟩, .int .i64 0, .string ⟨#[]⟩, .int .i64 0, .slice none 0 0, .int .i64 0, .slice none 0 0] 42))) := HN.out
  clear HR HB HT HN
  generalize (w.alloc (.cells #[.int .i64 0, .string ⟨#[]⟩, .int .i64 0, .string ⟨#[]⟩, .int .i64 0, .string ⟨#[]⟩, .int .i64 0, .string ⟨#[]⟩, .string ⟨#[]⟩, .string ⟨#[]⟩, .int .i64 0, .string ⟨#[]⟩, .int .i64 0, .slice none 0 0, .int .i64 0, .slice none 0 0] 42)) = w1 at *
  have CP := Lib.hid (opparts_any s w1)
  -- @P1
  go_wp2_with fail
  refine CP.out.mono ?_
  rintro e w2 ⟨b, g, rfl, hF, hr, hg1, hb1, hb⟩
  have HB2 := Lib.hid (HB0.out.trans (hb.mono HB0.out.size))
  have hR2 := HR0.out.on hb
  have CR := Lib.hid (opread_any w1 w2 b g s.data.toList HN1.out hb hg1 hF hr (by have : s.data.toList.length = s.size := (by simp); omega))
  clear hF hr hb1 CP HR0 HT1 HB0
  -- @P2
  go_wp2_with fail
  refine CR.out.mono ?_
  rintro e w3 ⟨z, er, rfl, hrd, hok, hfew, hg⟩
  have HRD := Lib.hid hrd.out
  have hR3 := hR2.grown hg (fun e => by simp only [Option.some.injEq] at e; omega)
  have hB3 := HB2.out.grown hg HB2.out.size (fun q hq => by simp only [Option.some.injEq] at hq; omega)
  have hbz := op_box w3 z
  have HZ := Lib.hid hbz.2
  have HR := Lib.hid (hR3.on hbz.1)
  have hB4 := hB3.trans (hbz.1.mono hB3.size)
  have HB := Lib.hid hB4
  have HT := Lib.hid (Tabs.on HT0.out hB4)
  have HN := Lib.hid (HN0.out.on hB4)
  have HSP := Lib.hid (hok.on hbz.1)
  have HFW := Lib.hid hfew.out
  have hl2 : w.heap.size < w2.heap.size := Nat.lt_of_lt_of_le hgl hb.size
  have hzg : w.heap.size < w3.heap.size := Nat.lt_of_lt_of_le hgl (Nat.le_trans hb.size hg.size)
  unfold Om.val Om.cells
  clear hrd hok hfew hg hR2 hR3 hB3 hbz hB4 CR HB2 HN1 HN0 HT0 hg1
  go_upto_region 3 with (fail)
  -- @P3
  by_cases he : er = 0
  · subst he
    cases hm : mayO z.key
    · have CX := Lib.hid (opput_no z _ HSP.out.ok HFW.out.sz HT.out hm)
      obtain ⟨zg, hzgd⟩ : ∃ q, w3.heap.size = q := ⟨_, rfl⟩
      rw [hzgd] at HZ hzg
      have q0 : ((0 : Int) != 0) = false := rfl
      generalize (w3.alloc (.cells #[.int .i64 z.kind, .string z.self.p, .int .i64 z.self.n, .string z.parent.p, .int .i64 z.parent.n, .string z.dst.p, .int .i64 z.dst.n, .string z.name, .string z.dname, .string z.left.p, .int .i64 z.left.n, .string z.right.p, .int .i64 z.right.n, .slice z.a1 z.dels.length z.c1, .int .i64 z.first, .slice z.a2 z.lines.length z.c2] 42)) = w4 at *
      have hzc := op_cells HZ.out
      have c_kind := hzc.kind
      have c_selfp := hzc.selfp
      have c_selfn := hzc.selfn
      have c_parentp := hzc.parentp
      have c_parentn := hzc.parentn
      have c_dstp := hzc.dstp
      have c_dstn := hzc.dstn
      have c_name := hzc.name
      have c_dname := hzc.dname
      have c_leftp := hzc.leftp
      have c_leftn := hzc.leftn
      have c_rightp := hzc.rightp
      have c_rightn := hzc.rightn
      have c_dels := hzc.dels
      have c_first := hzc.first
      have c_lines := hzc.lines
      go_upto_region 5 with (fail)
      -- @P5
      go_wp2_with fail
      refine CX.out.mono ?_
      rintro e w5 ⟨rfl, hb5⟩
      replace HR := Lib.hid (HR.out.on hb5)
      replace HB := Lib.hid (HB.out.trans (hb5.mono HB.out.size))
      replace HSP := Lib.hid (HSP.out.on hb5)
      replace HZ := Lib.hid (HZ.out.on hb5)
      clear hb5 CX hzc c_kind c_selfp c_selfn c_parentp c_parentn c_dstp c_dstn c_name c_dname c_leftp c_leftn c_rightp c_rightn c_dels c_first c_lines
      have HQ : Hid (OpAt (w5.setCells w.heap.size 0 (Om.cells zeroM)) w.heap.size zeroM) := Rk.At.put HR.out zeroM
      have HBQ := Lib.hid (HB.out.grown (Rk.setCells_grown w5 w.heap.size 0 (Om.cells zeroM)) HB.out.size (fun q hq => by simp only [Option.some.injEq] at hq; omega))
      have HV : Hid (GotK s zeroM 6) := ⟨fun h => absurd h (by decide), fun _ => ⟨rfl, fun k hk e => by
        have h1 := readO_put hk
        rw [← toB_list (putO k), e] at h1
        have h2 := HRD.out.symm.trans h1
        simp only [Prod.mk.injEq] at h2
        rw [← h2.1, hm] at hk
        cases hk⟩⟩
      clear hm HRD HZ HSP HFW HT HN HB
      go_wp2_with (refine wpList_store_op rfl (.tmp 2) (.tmp 32) rfl w.heap.size zeroM zeroM rfl rfl HR.out ?_; simp only [Act.put]; generalize (w5.setCells w.heap.size 0 (Om.cells zeroM)) = wq at *)
      (try simp only [Exit.inBlock, Exit.then])
      refine bodyPost_ret (ret_op2 rfl _ _ w.heap.size zeroM (.int .i64 6) rfl rfl HQ.out) rfl ?_
      exact ⟨zeroM, 6, rfl, HV, (by exact ⟨Rk.Own.nil _ _, OwnS.nil _ _⟩), HBQ.out⟩
    · have CX := Lib.hid (opput_yes z _ HSP.out.ok HFW.out.sz HT.out HN.out hm)
      obtain ⟨pt, hpt⟩ : ∃ t, toB (putO z.key) = t := ⟨_, rfl⟩
      rw [hpt] at CX
      have HPT := Lib.hid hpt
      clear hpt
      obtain ⟨zg, hzgd⟩ : ∃ q, w3.heap.size = q := ⟨_, rfl⟩
      rw [hzgd] at HZ hzg
      have q0 : ((0 : Int) != 0) = false := rfl
      generalize (w3.alloc (.cells #[.int .i64 z.kind, .string z.self.p, .int .i64 z.self.n, .string z.parent.p, .int .i64 z.parent.n, .string z.dst.p, .int .i64 z.dst.n, .string z.name, .string z.dname, .string z.left.p, .int .i64 z.left.n, .string z.right.p, .int .i64 z.right.n, .slice z.a1 z.dels.length z.c1, .int .i64 z.first, .slice z.a2 z.lines.length z.c2] 42)) = w4 at *
      have hzc := op_cells HZ.out
      have c_kind := hzc.kind
      have c_selfp := hzc.selfp
      have c_selfn := hzc.selfn
      have c_parentp := hzc.parentp
      have c_parentn := hzc.parentn
      have c_dstp := hzc.dstp
      have c_dstn := hzc.dstn
      have c_name := hzc.name
      have c_dname := hzc.dname
      have c_leftp := hzc.leftp
      have c_leftn := hzc.leftn
      have c_rightp := hzc.rightp
      have c_rightn := hzc.rightn
      have c_dels := hzc.dels
      have c_first := hzc.first
      have c_lines := hzc.lines
      go_upto_region 5 with (fail)
      -- @P5
      go_wp2_with fail
      refine CX.out.mono ?_
      rintro e w5 ⟨rfl, hb5⟩
      replace HR := Lib.hid (HR.out.on hb5)
      replace HB := Lib.hid (HB.out.trans (hb5.mono HB.out.size))
      replace HSP := Lib.hid (HSP.out.on hb5)
      replace HZ := Lib.hid (HZ.out.on hb5)
      clear hb5 CX hzc c_kind c_selfp c_selfn c_parentp c_parentn c_dstp c_dstn c_name c_dname c_leftp c_leftn c_rightp c_rightn c_dels c_first c_lines
      by_cases hs2 : pt = s
      · have HQ : Hid (OpAt (w5.setCells w.heap.size 0 (Om.cells z)) w.heap.size z) := Rk.At.put HR.out z
        have HBQ := Lib.hid (HB.out.grown (Rk.setCells_grown w5 w.heap.size 0 (Om.cells z)) HB.out.size (fun q hq => by simp only [Option.some.injEq] at hq; omega))
        have HV : Hid (GotK s z 0) := ⟨fun _ => ⟨hm, HPT.out.trans hs2⟩, fun h => absurd rfl h⟩
        have q2 : (pt.toList == s.toList) = true := by rw [hs2]; exact str_eqb _
        have hgz : w5.grownBy (w5.setCells w.heap.size 0 (Om.cells z)) (some w.heap.size) := Rk.setCells_grown w5 w.heap.size 0 (Om.cells z)
        have HOE : Hid (z.Sep (w5.setCells w.heap.size 0 (Om.cells z)) w.heap.size) := (HSP.out.grown hgz (by omega)).lower (by omega)
        clear hm hs2 HRD HSP HFW HT HN HB HPT hgz
        go_wp2_with (first | (refine wpList_load_op rfl (.tmp 5) rfl zg z rfl HZ.out ?_; simp only [Act.put, List.setIfInBounds_toArray, List.set_cons_succ, List.set_cons_zero]) | (refine wpList_store_op rfl (.tmp 2) (.tmp 33) rfl w.heap.size zeroM z rfl rfl HR.out ?_; simp only [Act.put]; generalize (w5.setCells w.heap.size 0 (Om.cells z)) = wq at *))
        (try simp only [Exit.inBlock, Exit.then])
        refine bodyPost_ret (ret_op2 rfl _ _ w.heap.size z (.int .i64 0) rfl rfl HQ.out) rfl ?_
        exact ⟨z, 0, rfl, HV, HOE.out, HBQ.out⟩
      · have HQ : Hid (OpAt (w5.setCells w.heap.size 0 (Om.cells zeroM)) w.heap.size zeroM) := Rk.At.put HR.out zeroM
        have HBQ := Lib.hid (HB.out.grown (Rk.setCells_grown w5 w.heap.size 0 (Om.cells zeroM)) HB.out.size (fun q hq => by simp only [Option.some.injEq] at hq; omega))
        have HV : Hid (GotK s zeroM 6) := ⟨fun h => absurd h (by decide), fun _ => ⟨rfl, fun k hk e => by
          have h1 := readO_put hk
          rw [← toB_list (putO k), e] at h1
          have h2 := HRD.out.symm.trans h1
          simp only [Prod.mk.injEq] at h2
          rw [← h2.1] at e
          exact hs2 (HPT.out.symm.trans e)⟩⟩
        have q2 : (pt.toList == s.toList) = false := str_ne hs2
        clear hm hs2 HRD HZ HSP HFW HT HN HB HPT
        go_wp2_with (refine wpList_store_op rfl (.tmp 2) (.tmp 32) rfl w.heap.size zeroM zeroM rfl rfl HR.out ?_; simp only [Act.put]; generalize (w5.setCells w.heap.size 0 (Om.cells zeroM)) = wq at *)
        (try simp only [Exit.inBlock, Exit.then])
        refine bodyPost_ret (ret_op2 rfl _ _ w.heap.size zeroM (.int .i64 6) rfl rfl HQ.out) rfl ?_
        exact ⟨zeroM, 6, rfl, HV, (by exact ⟨Rk.Own.nil _ _, OwnS.nil _ _⟩), HBQ.out⟩
  · generalize (w3.alloc (.cells #[.int .i64 z.kind, .string z.self.p, .int .i64 z.self.n, .string z.parent.p, .int .i64 z.parent.n, .string z.dst.p, .int .i64 z.dst.n, .string z.name, .string z.dname, .string z.left.p, .int .i64 z.left.n, .string z.right.p, .int .i64 z.right.n, .slice z.a1 z.dels.length z.c1, .int .i64 z.first, .slice z.a2 z.lines.length z.c2] 42)) = w4 at *
    have HQ : Hid (OpAt (w4.setCells w.heap.size 0 (Om.cells zeroM)) w.heap.size zeroM) := Rk.At.put HR.out zeroM
    have HBQ := Lib.hid (HB.out.grown (Rk.setCells_grown w4 w.heap.size 0 (Om.cells zeroM)) HB.out.size (fun q hq => by simp only [Option.some.injEq] at hq; omega))
    have HV : Hid (GotK s zeroM er) := ⟨fun h => absurd h he, fun _ => ⟨rfl, fun k hk e => by
      have h1 := readO_put hk
      rw [← toB_list (putO k), e] at h1
      have h2 := HRD.out.symm.trans h1
      simp only [Prod.mk.injEq] at h2
      exact he h2.2⟩⟩
    have q1 : (er != 0) = true := by rw [bne_iff_ne]; exact he
    clear he HRD HZ HSP HFW HT HN HB
    go_wp2_with (refine wpList_store_op rfl (.tmp 2) (.tmp 18) rfl w.heap.size zeroM zeroM rfl rfl HR.out ?_; simp only [Act.put]; generalize (w4.setCells w.heap.size 0 (Om.cells zeroM)) = wq at *)
    (try simp only [Exit.inBlock, Exit.then])
    refine bodyPost_ret (ret_op2 rfl _ _ w.heap.size zeroM (.int .i64 er) rfl rfl HQ.out) rfl ?_
    exact ⟨zeroM, er, rfl, HV, (by exact ⟨Rk.Own.nil _ _, OwnS.nil _ _⟩), HBQ.out⟩
end Go.Proofs.YtoajckhfnadhjaaGreatDoor
namespace Go.Proofs.YtoajckhfnadhjaaGreatDoor
open Go.RowKit
set_option linter.unusedVariables false

namespace Rk
variable {α : Type}
theorem wpList_append_at (R : Rk α) {w : World} {ops : Array Oper} {rest : List Oper} {o : Oper} {a : Act} {Q : Exit → Act → World → Prop} (hgd : o.guard = none) (s x : Operand)
    (ho : o.op = .call { callee := .builtin .append, args := #[s, x], argTypes := #[R.tys, R.tys] })
    (B : Nat) (v : Value) (fs tt : List α) (hs : a.eval s = v) (hown : R.Own w B v fs) (A : Option Addr) (cap n : Nat) (hx : a.eval x = .slice A n cap) (hn : n = tt.length) (hnil : A = none → cap = 0) {C : Nat} (ht : R.Row w C A tt) (hB : B ≤ w.heap.size) (hle : fs.length + tt.length ≤ 1000000)
    (m : Nat) (hm : m = fs.length + tt.length)
    (h : ∀ A' cap' w', R.Own w' B (.slice A' m cap') (fs ++ tt) → w.grownBy w' v.ownBlock → ((Value.slice A' m cap').ownBlock = v.ownBlock ∨ (Value.slice A' m cap').ownBlock = some w.heap.size) → wpList Tryz.prog ops Q rest (a.put o.dst (.slice A' m cap')) w') : wpList Tryz.prog ops Q (o :: rest) a w := by
  have key : ∀ v' w', R.Own w' B v' (fs ++ tt) → w.grownBy w' v.ownBlock → (v'.ownBlock = v.ownBlock ∨ v'.ownBlock = some w.heap.size) → wpList Tryz.prog ops Q rest (a.put o.dst v') w' := fun v' w' ho' hg' hb' => by
    obtain ⟨A', cap', rfl, _, _, _, _⟩ := ho'.slice
    have e : (fs ++ tt).length = m := by rw [List.length_append, hm]
    rw [e] at ho' hb' ⊢
    exact h A' cap' w' ho' hg' hb'
  subst hn
  obtain ⟨i0, hi, hz0, hz1, hz2⟩ := R.info_of
  cases A with
  | none =>
    have h0 : tt = [] := by
      cases tt with
      | nil => rfl
      | cons y r => exact absurd (ht (by simp)) (by rintro ⟨_, _, e, _⟩; cases e)
    subst h0
    rw [hnil rfl] at hx
    refine wpList_append_own_none hgd s x R.tys ho B R.ty i0 R.k R.und hi v _ _ hs hown hx ?_
    exact key v w (by simpa using hown) ⟨rfl, rfl, rfl, Nat.le_refl _, fun _ _ _ => rfl⟩ (.inl rfl)
  | some ad =>
    obtain ⟨f1, f2⟩ := append_fits hle R.small
    refine wpList_append_own_at w hgd s x R.tys ho B R.ty i0 _ R.k R.bytes R.und hi hz0 hz1 hz2 R.zsz R.pos v fs.length (R.cells fs) hs hown ad tt.length cap (R.cells tt) hx (R.cells_len tt) ?_ (R.oneCells tt) f1 f2 hB ?_
    · intro j u hu
      obtain ⟨hj, hju⟩ := List.getElem?_eq_some_iff.1 hu
      rw [R.cells_len] at hj
      obtain ⟨b, off, e, _, hc⟩ := ht (Nat.pos_of_ne_zero fun h0 => by rw [h0] at hj; simp at hj)
      simp only [Option.some.injEq] at e
      subst e
      rw [rec_add]
      exact hc j u hu
    · intro v' w' hown' hgrow _ hb'
      refine key v' w' ?_ hgrow hb'
      unfold Own
      rw [List.length_append, cells_app]
      exact hown'
theorem Row.grown {R : Rk α} {w w' : World} {B : Nat} {A : Option Addr} {l : List α} {row : Option Nat} (h : R.Row w B A l) (hg : w.grownBy w' row) (hr : ∀ b off, A = some ⟨b, off, none⟩ → row ≠ some b) : R.Row w' B A l := fun hp => by
  obtain ⟨b, off, e, hlt, hc⟩ := h hp
  refine ⟨b, off, e, hlt, fun i u hu => ?_⟩
  have h1 := hc i u hu
  have hlt2 : b < w.heap.size := rec_cell_lt h1
  have h2 := hg.block b hlt2 (fun e2 => hr b off e e2.symm)
  unfold World.cell? at h1 ⊢
  rw [h2]
  exact h1
end Rk
end Go.Proofs.YtoajckhfnadhjaaGreatDoor
namespace Go.Proofs.YtoajckhfnadhjaaGreatDoor
open Go.RowKit
set_option linter.unusedVariables false

theorem yields_load_op {ops : Array Oper} {S : World → Prop} {o : Oper} {a : Act} (hw : Region.wanted o (yielded ops a.tmps) = true) (x : Operand) (ho : o.op = .load 42 x) (g : Nat) (z : Om) (hx : a.eval x = .pointer (some ⟨g, 0, none⟩)) (hz : ∀ W, S W → OpAt W g z) :
    YieldsIf Tryz.prog ops S o (.agg #[.int .i64 z.kind, .string z.self.p, .int .i64 z.self.n, .string z.parent.p, .int .i64 z.parent.n, .string z.dst.p, .int .i64 z.dst.n, .string z.name, .string z.dname, .string z.left.p, .int .i64 z.left.n, .string z.right.p, .int .i64 z.right.n, .slice z.a1 z.dels.length z.c1, .int .i64 z.first, .slice z.a2 z.lines.length z.c2]) a :=
  Or.inl ⟨hw, fun W hW => by
    unfold execOp
    simp only [ho, hx, Instr.loadAt, Instr.sureAddr, Sem.run_bind, Sem.run_pure, Result.andThen_ok, load_op (hz W hW)]
    try rfl⟩
theorem wpList_load_opw {ops : Array Oper} {rest : List Oper} {op : Oper} {a : Act} {w : World} {Q : Exit → Act → World → Prop} (x : Operand) (g : Nat) (z : Om) (hz : OpAt w g z) (ho : op.op = .load 42 x) (hw : Region.wanted op (yielded ops a.tmps) = true)
    (hx : a.eval x = .pointer (some ⟨g, 0, none⟩)) (h : wpList Tryz.prog ops Q rest (a.put op.dst z.val) w) : wpList Tryz.prog ops Q (op :: rest) a w :=
  wpList_step fun K hK => by
    simp only [hw, if_true]
    exact wp_load_mid 42 x ho g 0 hx z.cells _ (fun j v hv => by rw [Nat.zero_add]; exact hz.cell hv) Tryz.underlying42 rfl sized_op (hK _ _ h)
end Go.Proofs.YtoajckhfnadhjaaGreatDoor
namespace Go.Proofs.YtoajckhfnadhjaaGreatDoor
open Go.RowKit
set_option linter.unusedVariables false

/-- An operation's rows lie in other blocks. -/
def Om.Far (z : Om) (g : Option Nat) : Prop := (∀ q, (Value.slice z.a1 z.dels.length z.c1).ownBlock = some q → g ≠ some q) ∧ ∀ q, (Value.slice z.a2 z.lines.length z.c2).ownBlock = some q → g ≠ some q
theorem Om.Sep.keep {z : Om} {w w' : World} {B : Nat} {g : Option Nat} (h : z.Sep w B) (hg : w.grownBy w' g) (hf : z.Far g) : z.Sep w' B := ⟨Rk.Own.grown h.dels hg hf.1, owns_grown h.lines hg hf.2⟩
theorem Om.Sep.far_new {z : Om} {w : World} {B n : Nat} (h : z.Sep w B) (hn : w.heap.size ≤ n) : z.Far (some n) := by
  refine ⟨fun q hq e => ?_, fun q hq e => ?_⟩
  · have h1 := (World.ownsRow.lt h.dels q hq).2
    simp only [Option.some.injEq] at e
    omega
  · have h1 := (World.ownsRow.lt h.lines q hq).2
    simp only [Option.some.injEq] at e
    omega
theorem Om.Sep.far_old {z : Om} {w : World} {B : Nat} {g : Option Nat} (h : z.Sep w B) (hg : ∀ q, g = some q → q < B) : z.Far g := by
  refine ⟨fun q hq e => ?_, fun q hq e => ?_⟩
  · have h1 := (World.ownsRow.lt h.dels q hq).1
    have h2 := hg q e
    omega
  · have h1 := (World.ownsRow.lt h.lines q hq).1
    have h2 := hg q e
    omega
/-- Operations in a row of the call's own, their rows too. -/
structure OpsOwn (w : World) (B : Nat) (v : Value) (zs : List Om) : Prop where
  row : opR.Own w B v zs
  each : ∀ z ∈ zs, z.Sep w B ∧ z.Far v.ownBlock
theorem OpsOwn.on {w w' : World} {B : Nat} {v : Value} {zs : List Om} (h : OpsOwn w B v zs) (hb : Below w.heap.size w w') : OpsOwn w' B v zs := ⟨Rk.Own.kept h.row hb, fun z hz => ⟨(h.each z hz).1.on hb, (h.each z hz).2⟩⟩
theorem OpsOwn.ops {w : World} {B n cap : Nat} {A : Option Addr} {zs : List Om} (h : OpsOwn w B (.slice A n cap) zs) : Ops w w.heap.size A zs := ⟨h.row.parts.2.1, fun z hz => (h.each z hz).1.ok⟩
theorem OpsOwn.away {w w' : World} {B g : Nat} {v : Value} {zs : List Om} (h : OpsOwn w B v zs) (hg : w.grownBy w' (some g)) (hB : g < B) : OpsOwn w' B v zs :=
  ⟨Rk.Own.grown h.row hg (fun q hq e => by have h1 := h.row.block q hq; simp only [Option.some.injEq] at e; omega), fun z hz => ⟨(h.each z hz).1.keep hg ((h.each z hz).1.far_old fun q e => by simp only [Option.some.injEq] at e; omega), (h.each z hz).2⟩⟩
/-- One more, whose rows were made behind the row's block. -/
theorem OpsOwn.snoc {w w' : World} {B B2 : Nat} {v v' : Value} {zs : List Om} {z : Om} (h : OpsOwn w B v zs) (hz : z.Sep w B2) (hB : B ≤ B2) (hv : ∀ q, v.ownBlock = some q → q < B2) (ho : opR.Own w' B v' (zs ++ [z])) (hg : w.grownBy w' v.ownBlock) (hl : v'.ownBlock = v.ownBlock ∨ v'.ownBlock = some w.heap.size) : OpsOwn w' B v' (zs ++ [z]) := by
  refine ⟨ho, fun y hy => ?_⟩
  have far : ∀ {y : Om} {C : Nat}, y.Sep w C → y.Far v.ownBlock → y.Far v'.ownBlock := fun hs hf => by
    rcases hl with e | e
    · rw [e]; exact hf
    · rw [e]; exact hs.far_new (Nat.le_refl _)
  rcases List.mem_append.1 hy with hy | hy
  · obtain ⟨h1, h2⟩ := h.each y hy
    exact ⟨h1.keep hg h2, far h1 h2⟩
  · simp only [List.mem_singleton] at hy
    subst hy
    have h2 := hz.far_old hv
    exact ⟨(hz.keep hg h2).lower hB, far hz h2⟩
/-- What opsOf leaves. -/
def OpsOfLeft (ls : List (List UInt8)) (w : World) (e : Ending) (w' : World) : Prop := ∃ (A : Option Addr) (n c : Nat) (b : Bool) (zs : List Om), e = .returned (.tuple #[.slice A n c, .bool b]) ∧ Hid (n = zs.length) ∧ OpsOwn w' w.heap.size (.slice A n c) zs ∧ Hid (∀ z ∈ zs, mayO z.key = true) ∧ Hid (b = true → (okeys zs).map putO = ls) ∧ Hid (b = false → ∃ x ∈ ls, ∀ k, mayO k = true → putO k ≠ x) ∧ Below w.heap.size w w'
theorem okeys_app (a b : List Om) : okeys (a ++ b) = okeys a ++ okeys b := by simp [okeys]
set_option maxHeartbeats 8000000 in
set_option maxRecDepth 100000 in
theorem popsof_any (A : Option Addr) (ls : List (List UInt8)) (c : Nat) (w : World) (hs : Strs w w.heap.size A (toBs ls)) (hn : ls.length ≤ 500000) (hl : ∀ x ∈ ls, x.length ≤ 500000) (hT : Tabs w) (hN : Nums w) :
    Calls Tryz.prog 44 #[.slice A ls.length c] w (OpsOfLeft ls w) := by
  have HS := Lib.hid hs
  have HL := Lib.hid hl
  have HT := Lib.hid hT
  have HN := Lib.hid hN
  have HO0 : Hid (OpsOwn w w.heap.size (.slice none 0 0) []) := ⟨Rk.Own.nil _ _, fun z hz => by simp at hz⟩
  have HG0 : Hid (Below w.heap.size w w) := Below.refl _ _
  clear hs hl hT hN
  go_enter Tryz.func44, Tryz.ntmps44
  go_wp2_with fail
  go_loopw [4, 11] (fun v iv wr => ∃ (k : Nat) (A4 : Option Addr) (n4 c4 : Nat) (zs : List Om), v = .slice A4 n4 c4 ∧ iv = .int .i64 (k : Int) ∧ k ≤ ls.length ∧ Hid (n4 = zs.length) ∧ Hid ((okeys zs).map putO = ls.take k) ∧ Hid (∀ z ∈ zs, mayO z.key = true) ∧ Hid (OpsOwn wr w.heap.size (.slice A4 n4 c4) zs) ∧ Hid (Below w.heap.size w wr)) (fun _ iv _ => ls.length - (intOf iv).toNat)
  case atStart => exact ⟨0, none, 0, 0, [], rfl, rfl, Nat.zero_le _, rfl, rfl, (fun z hz => by simp at hz), HO0.out, HG0.out⟩
  case round =>
    clear HO0 HG0
    obtain ⟨k, A4, n4, c4, zs, rfl, rfl, hk, HN4, HK, HM, HO, HG⟩ := hrel
    by_cases hlt : k < ls.length
    · obtain ⟨g, off, hA, hgB, hc⟩ := (HS.out.on HG.out).at_ (k := k) (by rw [toBs_len]; exact hlt)
      have e1 : (toBs ls)[k]'(by rw [toBs_len]; exact hlt) = toB ls[k] := by simp [toBs]
      rw [e1] at hc
      have hsz : (toB ls[k]).size ≤ 500000 := by rw [toB_size]; exact HL.out _ (List.getElem_mem _)
      have hmem : ls[k] ∈ ls := List.getElem_mem _
      have htk : ls.take (k + 1) = ls.take k ++ [ls[k]] := List.take_succ_eq_append_getElem hlt
      have hzl : zs.length = k := by
        have h := congrArg List.length HK.out
        rw [List.length_map, okeys_len, List.length_take] at h
        omega
      have HZL := Lib.hid hzl
      obtain ⟨y, hy⟩ : ∃ y, ls[k] = y := ⟨_, rfl⟩
      rw [hy] at hc hsz hmem htk
      have hys : (toB y).data.toList = y := of_toB y
      obtain ⟨s, hs⟩ : ∃ s, toB y = s := ⟨_, rfl⟩
      rw [hs] at hc hsz hys
      have HYS := Lib.hid hys
      have HMEM := Lib.hid hmem
      have HTK := Lib.hid htk
      have CG := Lib.hid (opgets_own s wr (Tabs.on HT.out HG.out) (HN.out.on HG.out) hsz)
      have u0 : (0 : Int) ≤ (k : Int) := by omega
      have u1 : (k : Int) < (ls.length : Int) := by omega
      rw [hA]
      clear e1 hsz hmem htk hy hs hys hgB hzl
      -- @P1
      go_wp2_with fail
      refine CG.out.mono ?_
      rintro e w2 ⟨z, er, rfl, hgk, hsep, hb2⟩
      obtain ⟨hbx, hX⟩ := op_box w2 z
      have HX := Lib.hid hX
      have HGK := Lib.hid hgk.out
      have HSZ := Lib.hid (hsep.on hbx)
      have hb3 := hb2.trans (hbx.mono hb2.size)
      have HO1 := Lib.hid (HO.out.on hb3)
      have HG1 := Lib.hid (HG.out.trans (hb3.mono HG.out.size))
      have HQB : Hid (∀ q, (Value.slice A4 n4 c4).ownBlock = some q → q < wr.heap.size) := fun q hq => (World.ownsRow.lt HO.out.row q hq).2
      have HGS : Hid (w.heap.size ≤ wr.heap.size) := HG.out.size
      clear hgk hsep hb2 hbx hX hb3 CG hc HO HG
      unfold Om.val Om.cells
      go_upto_region 6 with (fail)
      generalize (w2.alloc (.cells #[.int .i64 z.kind, .string z.self.p, .int .i64 z.self.n, .string z.parent.p, .int .i64 z.parent.n, .string z.dst.p, .int .i64 z.dst.n, .string z.name, .string z.dname, .string z.left.p, .int .i64 z.left.n, .string z.right.p, .int .i64 z.right.n, .slice z.a1 z.dels.length z.c1, .int .i64 z.first, .slice z.a2 z.lines.length z.c2] 42)) = wa at *
      generalize hgx : w2.heap.size = gx at *
      clear hgx
      generalize (Value.tuple #[Value.agg #[.int .i64 z.kind, .string z.self.p, .int .i64 z.self.n, .string z.parent.p, .int .i64 z.parent.n, .string z.dst.p, .int .i64 z.dst.n, .string z.name, .string z.dname, .string z.left.p, .int .i64 z.left.n, .string z.right.p, .int .i64 z.right.n, .slice z.a1 z.dels.length z.c1, .int .i64 z.first, .slice z.a2 z.lines.length z.c2], .int .i64 er]) = vt
      generalize (Value.agg #[.int .i64 z.kind, .string z.self.p, .int .i64 z.self.n, .string z.parent.p, .int .i64 z.parent.n, .string z.dst.p, .int .i64 z.dst.n, .string z.name, .string z.dname, .string z.left.p, .int .i64 z.left.n, .string z.right.p, .int .i64 z.right.n, .slice z.a1 z.dels.length z.c1, .int .i64 z.first, .slice z.a2 z.lines.length z.c2]) = vz
      by_cases he : er = 0
      · subst he
        obtain ⟨hmz, hpz⟩ := HGK.out.1 rfl
        have HK2 : Hid ((okeys (zs ++ [z])).map putO = ls.take (k + 1)) := by
          show _ = _
          rw [okeys_app, List.map_append, HK.out, HTK.out]
          have h : putO z.key = y := by rw [← HYS.out, ← hpz, of_toB]
          show _ ++ [putO z.key] = _
          rw [h]
        have HM2 : Hid (∀ x ∈ zs ++ [z], mayO x.key = true) := fun x hx => by
          rcases List.mem_append.1 hx with hx | hx
          · exact HM.out x hx
          · simp only [List.mem_singleton] at hx
            subst hx
            exact hmz
        have hal : Below wa.heap.size wa (wa.alloc (.cells #[.int .i64 z.kind, .string z.self.p, .int .i64 z.self.n, .string z.parent.p, .int .i64 z.parent.n, .string z.dst.p, .int .i64 z.dst.n, .string z.name, .string z.dname, .string z.left.p, .int .i64 z.left.n, .string z.right.p, .int .i64 z.right.n, .slice z.a1 z.dels.length z.c1, .int .i64 z.first, .slice z.a2 z.lines.length z.c2] 42)) := (Below.refl _ _).alloc (Nat.le_refl _) _
        have HO2 := Lib.hid (HO1.out.on hal)
        have HSZ2 := Lib.hid (HSZ.out.on hal)
        have HR2 : Hid (opR.Row (wa.alloc (.cells #[.int .i64 z.kind, .string z.self.p, .int .i64 z.self.n, .string z.parent.p, .int .i64 z.parent.n, .string z.dst.p, .int .i64 z.dst.n, .string z.name, .string z.dname, .string z.left.p, .int .i64 z.left.n, .string z.right.p, .int .i64 z.right.n, .slice z.a1 z.dels.length z.c1, .int .i64 z.first, .slice z.a2 z.lines.length z.c2] 42)) (wa.alloc (.cells #[.int .i64 z.kind, .string z.self.p, .int .i64 z.self.n, .string z.parent.p, .int .i64 z.parent.n, .string z.dst.p, .int .i64 z.dst.n, .string z.name, .string z.dname, .string z.left.p, .int .i64 z.left.n, .string z.right.p, .int .i64 z.right.n, .slice z.a1 z.dels.length z.c1, .int .i64 z.first, .slice z.a2 z.lines.length z.c2] 42)).heap.size (some ⟨wa.heap.size, 0, none⟩) [z]) := Rk.At.row (Rk.At.new_ (R := opR) wa z)
        have HG2 := Lib.hid (HG1.out.trans (hal.mono HG1.out.size))
        have hle : zs.length + [z].length ≤ 1000000 := by rw [HZL.out]; simp; omega
        obtain ⟨M, hM⟩ : ∃ M, M = zs.length + [z].length := ⟨_, rfl⟩
        have HMM := Lib.hid hM
        clear hmz hpz hal hM HK HM HO1 HSZ HG1 HGK HMEM HTK
        -- @P2
        go_wp2_with (first | ((with_reducible refine wpList_load_opw (.tmp 7) gx z HX.out ?_ ?_ ?_ ?_); rfl; rfl; rfl; simp only [Act.put, List.setIfInBounds_toArray, List.set_cons_zero, List.set_cons_succ, Om.val, Om.cells]) | (at_builtin; refine opR.wpList_append_at rfl _ _ rfl w.heap.size (.slice A4 n4 c4) zs [z] rfl HO2.out.row (some ⟨wa.heap.size, 0, none⟩) 1 1 rfl rfl (fun e => by cases e) HR2.out HG2.out.size hle M HMM.out ?_))
        intro A6 c6 w6 ho hg hloc
        have HO6 := Lib.hid (HO2.out.snoc HSZ2.out HGS.out HQB.out ho hg (by rw [World.size_alloc]; exact hloc))
        have HG6 := Lib.hid (HG2.out.grown hg HG2.out.size (fun q hq => HO2.out.row.block q hq))
        have HM6 : Hid (M = (zs ++ [z]).length) := by show _ = _; rw [List.length_append, HMM.out]
        clear ho hg hloc HO2 HSZ2 HR2 HG2 hle HX
        go_wp2
        go_roundw
        case rel => exact ⟨k + 1, A6, M, c6, zs ++ [z], rfl, by go_num, by omega, HM6.out, HK2.out, HM2.out, HO6.out, HG6.out⟩
        case measure => simp [intOf]; omega
      · have q1 : (er != 0) = true := by rw [bne_iff_ne]; exact he
        have hno := (HGK.out.2 he).2
        have HNO : Hid (∃ x ∈ ls, ∀ k, mayO k = true → putO k ≠ x) := ⟨y, HMEM.out, fun o ho e => hno o ho (by rw [e, ← HYS.out, toB_of])⟩
        have HNIL : Hid (OpsOwn wa w.heap.size (.slice none 0 0) []) := ⟨Rk.Own.nil _ _, fun z hz => by simp at hz⟩
        clear he hno HGK
        go_wp2
        go_ret2
        exact ⟨none, 0, 0, false, [], rfl, rfl, HNIL.out, (fun z hz => by simp at hz), (fun h => by cases h), (fun _ => HNO.out), HG1.out⟩
    · have hke : k = ls.length := by omega
      have HF : Hid ((okeys zs).map putO = ls) := by
        have h := HK.out
        rw [hke, List.take_length] at h
        exact h
      clear HK hke
      go_wp2
      go_ret2
      exact ⟨A4, n4, c4, true, zs, rfl, HN4.out, HO.out, HM.out, (fun _ => HF.out), (fun h => by cases h), HG.out⟩
end Go.Proofs.YtoajckhfnadhjaaGreatDoor
namespace Go.Proofs.YtoajckhfnadhjaaGreatDoor
set_option linter.unusedVariables false

theorem valR_lt : ∀ (l : List UInt8) (n v : Nat), valR l n = some v → n < 18446744073709551616 → v < 18446744073709551616
  | [], n, v, h, hn => by simp [valR] at h; omega
  | b :: l, n, v, h, hn => by
    unfold valR at h
    split at h
    · exact valR_lt l _ v h (by have : b.toNat % 128 < 128 := Nat.mod_lt _ (by omega); omega)
    · cases h
theorem numEnd_cons {b c : UInt8} {m : List UInt8} (h : numEnd (b :: c :: m) = some (b :: c :: m).length) : 128 ≤ b.toNat ∧ numEnd (c :: m) = some (c :: m).length := by
  unfold numEnd at h
  split at h
  · simp at h
  · rw [Option.map_eq_some_iff] at h
    obtain ⟨e, he, h2⟩ := h
    refine ⟨by omega, ?_⟩
    rw [he]
    simp at h2 ⊢
    omega
theorem valR_cons {b : UInt8} {m : List UInt8} {n : Nat} (h : valR (b :: m).reverse 0 = some n) : ∃ v, valR m.reverse 0 = some v ∧ n = v * 128 + b.toNat % 128 := by
  rw [List.reverse_cons, valR_snoc, Option.bind_eq_some_iff] at h
  obtain ⟨v, hv, h2⟩ := h
  refine ⟨v, hv, ?_⟩
  unfold valR at h2
  split at h2
  · simp [valR] at h2; omega
  · cases h2
theorem u8_of (b : UInt8) (k : Nat) (h : b.toNat = k) : UInt8.ofNat k = b := by subst h; simp
theorem numF_back : ∀ (m : List UInt8) (n f : Nat), m ≠ [] → numEnd m = some m.length → (1 < m.length → m.getLast? ≠ some 0) → valR m.reverse 0 = some n → m.length ≤ f + 1 →
    numF f n = m ∧ (m.getLast? ≠ some 0 → 128 ^ (m.length - 1) ≤ n)
  | [], _, _, h, _, _, _, _ => absurd rfl h
  | [b], n, f, _, he, _, hv, hf => by
    have hb : b.toNat < 128 := by
      unfold numEnd at he
      split at he
      · assumption
      · simp [numEnd] at he
    have hn : n = b.toNat := by simp [valR] at hv; omega
    subst hn
    refine ⟨by rw [numF_lt f _ hb, u8_of b _ rfl], fun h => ?_⟩
    simp only [List.length_singleton, Nat.sub_self, Nat.pow_zero]
    have : b.toNat ≠ 0 := fun e => h (by have : b = 0 := UInt8.toNat_inj.1 (by simpa using e); rw [this]; rfl)
    omega
  | b :: c :: m, n, f, _, he, hl, hv, hf => by
    obtain ⟨hb, he2⟩ := numEnd_cons he
    obtain ⟨v, hv2, hn⟩ := valR_cons hv
    have hlast : (c :: m).getLast? ≠ some 0 := by
      have := hl (by simp)
      rwa [List.getLast?_cons_cons] at this
    obtain ⟨g, rfl⟩ : ∃ g, f = g + 1 := ⟨f - 1, by simp at hf; omega⟩
    obtain ⟨h1, h2⟩ := numF_back (c :: m) v g (by simp) he2 (fun _ => hlast) hv2 (by simp at hf ⊢; omega)
    have hp := h2 hlast
    have hpos : 1 ≤ 128 ^ ((c :: m).length - 1) := Nat.one_le_pow _ _ (by omega)
    have hmod : b.toNat % 128 < 128 := Nat.mod_lt _ (by omega)
    have hb2 : b.toNat < 256 := UInt8.toNat_lt b
    refine ⟨?_, fun _ => ?_⟩
    · rw [numF_ge g n (by omega), show n / 128 = v by omega, h1, show 128 + n % 128 = b.toNat by omega, u8_of b _ rfl]
    · rw [hn, show (b :: c :: m).length - 1 = ((c :: m).length - 1) + 1 by simp, Nat.pow_succ]
      have := Nat.mul_le_mul_right 128 hp
      omega
theorem numEnd_take : ∀ (l : List UInt8) (e : Nat), numEnd l = some e → numEnd (l.take e) = some e
  | [], e, h => by simp [numEnd] at h
  | b :: l, e, h => by
    have hp := numEnd_pos _ _ h
    obtain ⟨e', rfl⟩ : ∃ e', e = e' + 1 := ⟨e - 1, by omega⟩
    unfold numEnd at h
    split at h
    · rename_i hb
      simp at h; subst h
      simp [numEnd, hb]
    · rename_i hb
      rw [Option.map_eq_some_iff] at h
      obtain ⟨x, hx, h2⟩ := h
      obtain rfl : x = e' := by omega
      rw [List.take_succ_cons]
      unfold numEnd
      rw [if_neg hb, numEnd_take l x hx]
      rfl
theorem rNum_back {l r : List UInt8} {n : Nat} (h : rNum l = (n, 0, r)) : l = numB n ++ r ∧ n < 18446744073709551616 := by
  unfold rNum at h
  cases he : numEnd l with
  | none => rw [he] at h; simp at h
  | some e =>
    rw [he] at h
    simp only at h
    cases hv : numVal (l.take e) with
    | none => rw [hv] at h; simp at h
    | some v =>
      rw [hv] at h
      simp only [Prod.mk.injEq, true_and] at h
      obtain ⟨rfl, rfl⟩ := h
      have hp := numEnd_pos _ _ he
      have hlen : (l.take e).length = e := by rw [List.length_take]; omega
      have ht := numEnd_take l e he
      unfold numVal at hv
      split at hv
      · cases hv
      · rename_i hc
        have hlast : 1 < (l.take e).length → (l.take e).getLast? ≠ some 0 := fun h1 h2 => hc ⟨h1, h2⟩
        have hlt := valR_lt _ _ _ hv (by omega)
        have hne : l.take e ≠ [] := by intro h0; rw [h0] at hlen; simp at hlen; omega
        have h10 : (l.take e).length ≤ 10 := by
          rcases Nat.lt_or_ge 10 (l.take e).length with h1 | h1
          · have h2 := (numF_back (l.take e) v ((l.take e).length) hne (by rw [hlen]; exact ht) hlast hv (by omega)).2 (hlast (by omega))
            have h3 : 128 ^ 10 ≤ 128 ^ ((l.take e).length - 1) := Nat.pow_le_pow_right (by omega) (by omega)
            have h4 : (18446744073709551616 : Nat) < 128 ^ 10 := by decide
            omega
          · exact h1
        have hb := (numF_back (l.take e) v 9 hne (by rw [hlen]; exact ht) hlast hv (by omega)).1
        refine ⟨?_, hlt⟩
        unfold numB
        rw [hb, List.take_append_drop]
theorem rCount_back {l r : List UInt8} {n : Nat} (h : rCount l = (n, 0, r)) : l = numB n ++ r ∧ n ≤ r.length := by
  unfold rCount at h
  split at h
  · rename_i h0
    simp only [Prod.mk.injEq] at h
    exact absurd h.2.1 h0
  · split at h
    · simp at h
    · rename_i h0 h1
      rw [h] at h1
      exact ⟨(rNum_back h).1, by simp at h1; exact h1⟩
theorem rText_back {l s r : List UInt8} (h : rText l = (s, 0, r)) : l = textB s ++ r := by
  unfold rText at h
  split at h
  · rename_i h0
    simp only [Prod.mk.injEq] at h
    exact absurd h.2.1 h0
  · rename_i h0
    rcases hc : rCount l with ⟨n, e, x⟩
    rw [hc] at h h0
    simp only [ne_eq, Decidable.not_not] at h0
    subst h0
    simp only [Prod.mk.injEq, true_and] at h
    obtain ⟨rfl, rfl⟩ := h
    obtain ⟨h1, h2⟩ := rCount_back hc
    unfold textB
    rw [List.length_take, Nat.min_eq_left h2, h1, List.append_assoc, List.take_append_drop]
theorem rTexts_back : ∀ (n : Nat) {l : List UInt8} {ls : List (List UInt8)} {r : List UInt8}, rTexts n l = (ls, 0, r) → l = textsB ls ++ r ∧ ls.length = n
  | 0, l, ls, r, h => by
    simp only [rTexts, Prod.mk.injEq, true_and] at h
    obtain ⟨rfl, rfl⟩ := h
    simp [textsB]
  | n + 1, l, ls, r, h => by
    unfold rTexts at h
    split at h
    · rename_i h0
      simp only [Prod.mk.injEq] at h
      exact absurd h.2.1 h0
    · rename_i h0
      split at h
      · rename_i h1
        simp only [Prod.mk.injEq] at h
        exact absurd h.2.1 h1
      · rename_i h1
        rcases hc : rText l with ⟨s, e, x⟩
        rw [hc] at h h0 h1
        simp only [ne_eq, Decidable.not_not] at h0 h1
        subst h0
        rcases hd : rTexts n x with ⟨ts, e2, y⟩
        rw [hd] at h h1
        simp only at h h1
        subst h1
        simp only [Prod.mk.injEq, true_and] at h
        obtain ⟨rfl, rfl⟩ := h
        obtain ⟨h2, h3⟩ := rTexts_back n hd
        have h4 := rText_back hc
        refine ⟨?_, by simp [h3]⟩
        rw [h4, h2]
        simp [textsB]
theorem rList_back {l : List UInt8} {ls : List (List UInt8)} {r : List UInt8} (h : rList l = (ls, 0, r)) : l = listB ls ++ r := by
  unfold rList at h
  split at h
  · rename_i h0
    simp only [Prod.mk.injEq] at h
    exact absurd h.2.1 h0
  · rename_i h0
    rcases hc : rCount l with ⟨n, e, x⟩
    rw [hc] at h h0
    simp only [ne_eq, Decidable.not_not] at h0
    subst h0
    obtain ⟨h1, h2⟩ := rTexts_back n h
    obtain ⟨h3, _⟩ := rCount_back hc
    simp only at h1
    unfold listB
    rw [h3, h2, h1, List.append_assoc]
end Go.Proofs.YtoajckhfnadhjaaGreatDoor
