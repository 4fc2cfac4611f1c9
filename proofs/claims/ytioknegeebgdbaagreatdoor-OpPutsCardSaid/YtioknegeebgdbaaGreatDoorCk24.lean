/- The statements' awake of layer 12: what must come at any rate. -/
import Derived.BigQuiet
import Derived.Deep.QuietTactic
import Derived.Handy
import Derived.Deep.CutRange
import Derived.Deep.RegionLaw
import Derived.Test.YtioknegeebgdbaaGreatDoorCk21
import Derived.Test.YtioknegeebgdbaaGreatDoorCk23
namespace Go.Proofs.YtioknegeebgdbaaGreatDoor
open Go.RowKit
open Go.Sort
set_option linter.unusedVariables false

/-- The operation that awake asks for, its lines at a block. -/
abbrev awO (b : Nat) : Om := ⟨5, ⟨⟨#[97]⟩, 0⟩, ⟨⟨#[]⟩, 0⟩, ⟨⟨#[]⟩, 0⟩, ⟨#[]⟩, ⟨#[]⟩, ⟨⟨#[]⟩, 1⟩, ⟨⟨#[]⟩, 2⟩, none, 0, [], 1, some ⟨b, 0, none⟩, 2, [[120], [121]]⟩
def awK : OpK := ⟨5, ([97], 0), ([], 0), ([], 0), [], [], ([], 1), ([], 2), [], 1, [[120], [121]]⟩
theorem awO_key (b : Nat) : (awO b).key = awK := rfl
theorem awK_may : mayO awK = true := by decide +kernel
theorem awK_len : 10 < (toB (putO awK)).size := by decide +kernel
theorem awK_small : (toB (putO awK)).size ≤ 100000 := by decide +kernel
theorem awK_comes : comesO [97] awK = [([97], 1), ([97], 2)] := by decide +kernel
theorem awK_ids : idsO awK = [([97], 0)] := by decide +kernel
theorem zeroK_may : mayO zeroM.key = false := by decide +kernel
theorem awO_sz (b : Nat) : (awO b).Sz := by
  have z0 : (⟨#[]⟩ : ByteArray).size ≤ 9223372036854775807 := by decide
  have z1 : (⟨#[97]⟩ : ByteArray).size ≤ 9223372036854775807 := by decide
  have z2 : ([[120], [121]] : List (List UInt8)).length ≤ 900000 := by decide
  refine ⟨z1, z0, z0, z0, z0, z0, z0, Nat.zero_le _, fun i hi => (by cases hi), z2, fun l hl => ?_⟩
  have h2 : l = [120] ∨ l = [121] := by simpa using hl
  rcases h2 with rfl | rfl <;> decide
theorem zeroM_sz : zeroM.Sz := ⟨by decide, by decide, by decide, by decide, by decide, by decide, by decide, Nat.zero_le _, fun i hi => (by cases hi), Nat.zero_le _, fun l hl => (by cases hl)⟩
theorem zeroM_ok (w : World) (B : Nat) : zeroM.Ok w B := ⟨Rk.Row.nil, ⟨fun _ => rfl, Nat.le_refl _⟩, Strs.none_, ⟨fun _ => rfl, Nat.le_refl _⟩⟩
theorem got_aw {z : Om} {er : Int} (h : GotK (toB (putO awK)) z er) : er = 0 ∧ z.key = awK := by
  by_cases e : er = 0
  · obtain ⟨h1, h2⟩ := h.1 e
    refine ⟨e, putO_inj h1 awK_may ?_⟩
    have h3 := congrArg (fun b : ByteArray => b.data.toList) h2
    simpa [toB_list] using h3
  · exact absurd rfl ((h.2 e).2 awK awK_may)
theorem sz_same {x y : Om} (h : x.key = y.key) (k : y.Sz) : x.Sz := by
  have e1 : x.self = y.self := Im.key_inj (congrArg OpK.self h)
  have e2 : x.parent = y.parent := Im.key_inj (congrArg OpK.parent h)
  have e3 : x.dst = y.dst := Im.key_inj (congrArg OpK.dst h)
  have e4 : x.left = y.left := Im.key_inj (congrArg OpK.left h)
  have e5 : x.right = y.right := Im.key_inj (congrArg OpK.right h)
  have e6 : x.name = y.name := bytes_inj (congrArg OpK.name h)
  have e7 : x.dname = y.dname := bytes_inj (congrArg OpK.dname h)
  have e8 : x.dels = y.dels := ikeys_inj (congrArg OpK.dels h)
  have e9 : x.lines = y.lines := congrArg OpK.lines h
  exact ⟨by rw [e1]; exact k.self, by rw [e2]; exact k.parent, by rw [e3]; exact k.dst, by rw [e4]; exact k.left, by rw [e5]; exact k.right, by rw [e6]; exact k.name, by rw [e7]; exact k.dname, by rw [e8]; exact k.few, by rw [e8]; exact k.dels, by rw [e9]; exact k.rows, by rw [e9]; exact k.lines⟩
theorem ids_two {l : List Im} {a b : Ik} (h : ikeys l = [a, b]) : l = [imOf a, imOf b] := ikeys_inj (by rw [h]; simp [ikeys, imOf_key])
theorem ids_one {l : List Im} {a : Ik} (h : ikeys l = [a]) : l = [imOf a] := ikeys_inj (by rw [h]; simp [ikeys, imOf_key])
theorem own_some {w : World} {B n c : Nat} {A : Option Addr} {l : List Im} (h : OwnId w B (.slice A n c) l) (hl : 0 < l.length) : ∃ g, A = some ⟨g, 0, none⟩ ∧ n = l.length ∧ Ids w w.heap.size (some ⟨g, 0, none⟩) l := by
  have hp := h.parts
  rcases Rk.own_cases h with ⟨_, rfl⟩ | ⟨g, cap, e, _, _⟩
  · exact absurd hl (by simp)
  · simp only [Value.slice.injEq] at e
    obtain ⟨rfl, rfl, rfl⟩ := e
    exact ⟨g, rfl, rfl, hp.2.1⟩
theorem left_two {w w' : World} {e : Ending} {a b : Ik} (h : IdsLeft w [a, b] e w') : ∃ g c, e = .returned (.slice (some ⟨g, 0, none⟩) 2 c) ∧ Ids w' w'.heap.size (some ⟨g, 0, none⟩) [imOf a, imOf b] ∧ Below w.heap.size w w' := by
  obtain ⟨A, n, c, l, rfl, hk, ho, hb⟩ := h
  obtain rfl := ids_two hk
  obtain ⟨g, rfl, rfl, hi⟩ := own_some ho (by simp)
  exact ⟨g, c, rfl, hi, hb⟩
theorem left_one {w w' : World} {e : Ending} {a : Ik} (h : IdsLeft w [a] e w') : ∃ g c, e = .returned (.slice (some ⟨g, 0, none⟩) 1 c) ∧ Ids w' w'.heap.size (some ⟨g, 0, none⟩) [imOf a] ∧ Below w.heap.size w w' := by
  obtain ⟨A, n, c, l, rfl, hk, ho, hb⟩ := h
  obtain rfl := ids_one hk
  obtain ⟨g, rfl, rfl, hi⟩ := own_some ho (by simp)
  exact ⟨g, c, rfl, hi, hb⟩
set_option maxHeartbeats 8000000 in
set_option maxRecDepth 100000 in
theorem opawake_any (w : World) (hT : Tabs w) (hN : Nums w) : Calls Tryz.prog 6 #[] w fun e w' => e = .returned (.bool true) ∧ Below w.heap.size w w' := by
  obtain ⟨b1, f1⟩ := id_box w ⟨⟨#[97]⟩, 0⟩
  have b2 : Below (w.alloc (.cells #[.string ⟨#[97]⟩, .int .i64 0] 23)).heap.size (w.alloc (.cells #[.string ⟨#[97]⟩, .int .i64 0] 23)) ((w.alloc (.cells #[.string ⟨#[97]⟩, .int .i64 0] 23)).alloc (.cells #[.string ⟨#[120]⟩, .string ⟨#[121]⟩] 9)) := (Below.refl _ _).alloc (Nat.le_refl _) _
  have hs2 : Strs ((w.alloc (.cells #[.string ⟨#[97]⟩, .int .i64 0] 23)).alloc (.cells #[.string ⟨#[120]⟩, .string ⟨#[121]⟩] 9)) ((w.alloc (.cells #[.string ⟨#[97]⟩, .int .i64 0] 23)).alloc (.cells #[.string ⟨#[120]⟩, .string ⟨#[121]⟩] 9)).heap.size (some ⟨(w.alloc (.cells #[.string ⟨#[97]⟩, .int .i64 0] 23)).heap.size, 0, none⟩) [⟨#[120]⟩, ⟨#[121]⟩] := by
    intro _
    refine ⟨_, 0, rfl, by simp, fun j hj => ?_⟩
    have hj2 : j = 0 ∨ j = 1 := by simp at hj; omega
    rcases hj2 with rfl | rfl <;> rw [World.cell?_alloc_new] <;> rfl
  rw [show (w.alloc (.cells #[.string ⟨#[97]⟩, .int .i64 0] 23)).heap.size = w.heap.size + 1 by simp] at hs2
  obtain ⟨b3, h3⟩ := op_box ((w.alloc (.cells #[.string ⟨#[97]⟩, .int .i64 0] 23)).alloc (.cells #[.string ⟨#[120]⟩, .string ⟨#[121]⟩] 9)) (awO (w.heap.size + 1))
  rw [show ((w.alloc (.cells #[.string ⟨#[97]⟩, .int .i64 0] 23)).alloc (.cells #[.string ⟨#[120]⟩, .string ⟨#[121]⟩] 9)).heap.size = w.heap.size + 1 + 1 by simp] at h3
  have b123 := (b1.trans (b2.mono b1.size)).trans (b3.mono (Nat.le_trans b1.size b2.size))
  have HO : Hid (OpAt (((w.alloc (.cells #[.string ⟨#[97]⟩, .int .i64 0] 23)).alloc (.cells #[.string ⟨#[120]⟩, .string ⟨#[121]⟩] 9)).alloc (.cells #[.int .i64 5, .string ⟨#[97]⟩, .int .i64 0, .string ⟨#[]⟩, .int .i64 0, .string ⟨#[]⟩, .int .i64 0, .string ⟨#[]⟩, .string ⟨#[]⟩, .string ⟨#[]⟩, .int .i64 1, .string ⟨#[]⟩, .int .i64 2, .slice none 0 0, .int .i64 1, .slice (some ⟨w.heap.size + 1, 0, none⟩) 2 2] 27)) (w.heap.size + 1 + 1) (awO (w.heap.size + 1))) := h3
  have HF : Hid (IdAt (((w.alloc (.cells #[.string ⟨#[97]⟩, .int .i64 0] 23)).alloc (.cells #[.string ⟨#[120]⟩, .string ⟨#[121]⟩] 9)).alloc (.cells #[.int .i64 5, .string ⟨#[97]⟩, .int .i64 0, .string ⟨#[]⟩, .int .i64 0, .string ⟨#[]⟩, .int .i64 0, .string ⟨#[]⟩, .string ⟨#[]⟩, .string ⟨#[]⟩, .int .i64 1, .string ⟨#[]⟩, .int .i64 2, .slice none 0 0, .int .i64 1, .slice (some ⟨w.heap.size + 1, 0, none⟩) 2 2] 27)) w.heap.size ⟨⟨#[97]⟩, 0⟩) := (f1.on b2).on b3
  have HB : Hid (Below w.heap.size w (((w.alloc (.cells #[.string ⟨#[97]⟩, .int .i64 0] 23)).alloc (.cells #[.string ⟨#[120]⟩, .string ⟨#[121]⟩] 9)).alloc (.cells #[.int .i64 5, .string ⟨#[97]⟩, .int .i64 0, .string ⟨#[]⟩, .int .i64 0, .string ⟨#[]⟩, .int .i64 0, .string ⟨#[]⟩, .string ⟨#[]⟩, .string ⟨#[]⟩, .int .i64 1, .string ⟨#[]⟩, .int .i64 2, .slice none 0 0, .int .i64 1, .slice (some ⟨w.heap.size + 1, 0, none⟩) 2 2] 27))) := b123
  have hs3 := hs2.on b3
  have HOK : Hid ((awO (w.heap.size + 1)).Ok (((w.alloc (.cells #[.string ⟨#[97]⟩, .int .i64 0] 23)).alloc (.cells #[.string ⟨#[120]⟩, .string ⟨#[121]⟩] 9)).alloc (.cells #[.int .i64 5, .string ⟨#[97]⟩, .int .i64 0, .string ⟨#[]⟩, .int .i64 0, .string ⟨#[]⟩, .int .i64 0, .string ⟨#[]⟩, .string ⟨#[]⟩, .string ⟨#[]⟩, .int .i64 1, .string ⟨#[]⟩, .int .i64 2, .slice none 0 0, .int .i64 1, .slice (some ⟨w.heap.size + 1, 0, none⟩) 2 2] 27)) (((w.alloc (.cells #[.string ⟨#[97]⟩, .int .i64 0] 23)).alloc (.cells #[.string ⟨#[120]⟩, .string ⟨#[121]⟩] 9)).alloc (.cells #[.int .i64 5, .string ⟨#[97]⟩, .int .i64 0, .string ⟨#[]⟩, .int .i64 0, .string ⟨#[]⟩, .int .i64 0, .string ⟨#[]⟩, .string ⟨#[]⟩, .string ⟨#[]⟩, .int .i64 1, .string ⟨#[]⟩, .int .i64 2, .slice none 0 0, .int .i64 1, .slice (some ⟨w.heap.size + 1, 0, none⟩) 2 2] 27)).heap.size) := ⟨Rk.Row.nil, ⟨fun _ => rfl, Nat.le_refl _⟩, hs3, ⟨(fun e => by cases e), Nat.le_refl _⟩⟩
  have HT : Hid (Tabs (((w.alloc (.cells #[.string ⟨#[97]⟩, .int .i64 0] 23)).alloc (.cells #[.string ⟨#[120]⟩, .string ⟨#[121]⟩] 9)).alloc (.cells #[.int .i64 5, .string ⟨#[97]⟩, .int .i64 0, .string ⟨#[]⟩, .int .i64 0, .string ⟨#[]⟩, .int .i64 0, .string ⟨#[]⟩, .string ⟨#[]⟩, .string ⟨#[]⟩, .int .i64 1, .string ⟨#[]⟩, .int .i64 2, .slice none 0 0, .int .i64 1, .slice (some ⟨w.heap.size + 1, 0, none⟩) 2 2] 27))) := Tabs.on hT b123
  have HN : Hid (Nums (((w.alloc (.cells #[.string ⟨#[97]⟩, .int .i64 0] 23)).alloc (.cells #[.string ⟨#[120]⟩, .string ⟨#[121]⟩] 9)).alloc (.cells #[.int .i64 5, .string ⟨#[97]⟩, .int .i64 0, .string ⟨#[]⟩, .int .i64 0, .string ⟨#[]⟩, .int .i64 0, .string ⟨#[]⟩, .string ⟨#[]⟩, .string ⟨#[]⟩, .int .i64 1, .string ⟨#[]⟩, .int .i64 2, .slice none 0 0, .int .i64 1, .slice (some ⟨w.heap.size + 1, 0, none⟩) 2 2] 27))) := hN.on b123
  clear b1 f1 b2 hs2 b3 h3 b123 hs3 hT hN
  go_enter Tryz.func6, Tryz.ntmps6
  go_upto_region 3 with (fail)
  generalize (((w.alloc (.cells #[.string ⟨#[97]⟩, .int .i64 0] 23)).alloc (.cells #[.string ⟨#[120]⟩, .string ⟨#[121]⟩] 9)).alloc (.cells #[.int .i64 5, .string ⟨#[97]⟩, .int .i64 0, .string ⟨#[]⟩, .int .i64 0, .string ⟨#[]⟩, .int .i64 0, .string ⟨#[]⟩, .string ⟨#[]⟩, .string ⟨#[]⟩, .int .i64 1, .string ⟨#[]⟩, .int .i64 2, .slice none 0 0, .int .i64 1, .slice (some ⟨w.heap.size + 1, 0, none⟩) 2 2] 27)) = wa at *
  obtain ⟨T, hTT⟩ : ∃ T, toB (putO awK) = T := ⟨_, rfl⟩
  have hlen : (T.size : Int) > 10 := by have := awK_len; rw [hTT] at this; omega
  have hsm : T.size ≤ 100000 := by have := awK_small; rw [hTT] at this; exact this
  have HTT := Lib.hid hTT
  have CP : Hid (Calls Tryz.prog 7 #[(awO (w.heap.size + 1)).val] wa fun e w' => e = .returned (.tuple #[.string T, .int .i64 0]) ∧ Below wa.heap.size wa w') := by
    have h := opput_yes (awO (w.heap.size + 1)) wa HOK.out (awO_sz _) HT.out HN.out (by rw [awO_key]; exact awK_may)
    rw [awO_key, hTT] at h
    exact h
  clear hTT
  -- @P1
  go_wp2_with (refine wpList_load_op rfl (.tmp 2) rfl (w.heap.size + 1 + 1) (awO (w.heap.size + 1)) rfl HO.out ?_; simp only [Act.put, List.setIfInBounds_toArray, List.set_cons_succ, List.set_cons_zero])
  refine CP.out.mono ?_
  rintro e w4 ⟨rfl, hb⟩
  replace HO := Lib.hid (HO.out.on hb)
  replace HF := Lib.hid (HF.out.on hb)
  replace HB := Lib.hid (HB.out.trans (hb.mono HB.out.size))
  replace HOK := Lib.hid (HOK.out.on hb)
  replace HT := Lib.hid (Tabs.on HT.out hb)
  replace HN := Lib.hid (HN.out.on hb)
  clear hb CP
  have CG := Lib.hid (opget_any T w4 HT.out HN.out hsm)
  -- @P2
  go_wp2_with fail
  refine CG.out.mono ?_
  rintro e w5 ⟨z, er, rfl, hgot, hzok, hb⟩
  have hg := hgot.out
  rw [← HTT.out] at hg
  obtain ⟨rfl, hzk⟩ := got_aw hg
  have hbz := op_box w5 z
  have hb6 := hb.trans (hbz.1.mono hb.size)
  have HZ := Lib.hid hbz.2
  have HZO := Lib.hid (hzok.on hbz.1)
  have HZS := Lib.hid (sz_same (hzk.trans (awO_key (w.heap.size + 1)).symm) (awO_sz _))
  have HZK := Lib.hid hzk
  replace HO := Lib.hid (HO.out.on hb6)
  replace HF := Lib.hid (HF.out.on hb6)
  replace HB := Lib.hid (HB.out.trans (hb6.mono HB.out.size))
  replace HOK := Lib.hid (HOK.out.on hb6)
  replace HT := Lib.hid (Tabs.on HT.out hb6)
  unfold Om.val Om.cells
  clear hgot hzok hb hg hzk hbz hb6 CG HN
  go_upto_region 5 with (fail)
  generalize (w5.alloc (.cells #[.int .i64 z.kind, .string z.self.p, .int .i64 z.self.n, .string z.parent.p, .int .i64 z.parent.n, .string z.dst.p, .int .i64 z.dst.n, .string z.name, .string z.dname, .string z.left.p, .int .i64 z.left.n, .string z.right.p, .int .i64 z.right.n, .slice z.a1 z.dels.length z.c1, .int .i64 z.first, .slice z.a2 z.lines.length z.c2] 27)) = w6 at *
  generalize hgz : w5.heap.size = gz at *
  clear hgz
  -- @P3
  have CC : Hid (∀ W, Below w6.heap.size w6 W → Calls Tryz.prog 15 #[.string ⟨#[97]⟩, .agg #[.int .i64 5, .string ⟨#[97]⟩, .int .i64 0, .string ⟨#[]⟩, .int .i64 0, .string ⟨#[]⟩, .int .i64 0, .string ⟨#[]⟩, .string ⟨#[]⟩, .string ⟨#[]⟩, .int .i64 1, .string ⟨#[]⟩, .int .i64 2, .slice none 0 0, .int .i64 1, .slice (some ⟨w.heap.size + 1, 0, none⟩) 2 2]] W fun e w' => ∃ g c, e = .returned (.slice (some ⟨g, 0, none⟩) 2 c) ∧ Ids w' w'.heap.size (some ⟨g, 0, none⟩) [⟨⟨#[97]⟩, 1⟩, ⟨⟨#[97]⟩, 2⟩] ∧ Below W.heap.size W w') := fun W hW => by
    refine (opcomes_any ⟨#[97]⟩ (awO (w.heap.size + 1)) W (HOK.out.on hW) (show (1 : Int) ≤ 1073741824 by decide)).mono ?_
    intro e w' h
    have h2 : IdsLeft W [([97], 1), ([97], 2)] e w' := by
      have h3 : IdsLeft W (comesO [97] awK) e w' := h
      rw [awK_comes] at h3
      exact h3
    exact left_two h2
  have CI : Hid (∀ W, Below w6.heap.size w6 W → Calls Tryz.prog 16 #[.agg #[.int .i64 5, .string ⟨#[97]⟩, .int .i64 0, .string ⟨#[]⟩, .int .i64 0, .string ⟨#[]⟩, .int .i64 0, .string ⟨#[]⟩, .string ⟨#[]⟩, .string ⟨#[]⟩, .int .i64 1, .string ⟨#[]⟩, .int .i64 2, .slice none 0 0, .int .i64 1, .slice (some ⟨w.heap.size + 1, 0, none⟩) 2 2]] W fun e w' => ∃ g c, e = .returned (.slice (some ⟨g, 0, none⟩) 1 c) ∧ Ids w' w'.heap.size (some ⟨g, 0, none⟩) [⟨⟨#[97]⟩, 0⟩] ∧ Below W.heap.size W w') := fun W hW => by
    refine (opidset_any (awO (w.heap.size + 1)) W (HOK.out.on hW) (Nat.zero_le _)).mono ?_
    intro e w' h
    have h2 : IdsLeft W [([97], 0)] e w' := by
      have h3 : IdsLeft W (idsO awK) e w' := h
      rw [awK_ids] at h3
      exact h3
    exact left_one h2
  have hdr : Below w6.heap.size w6 w6.drew := (Below.refl _ _).drew
  have HDR := Lib.hid hdr
  have HOD := Lib.hid (HO.out.on hdr)
  clear hdr
  have c_kind : w6.drew.cell? ⟨w.heap.size + 1 + 1, 0, none⟩ = some (.int .i64 5) := (op_cells HOD.out).kind
  have c_selfp : w6.drew.cell? ⟨w.heap.size + 1 + 1, 1, none⟩ = some (.string ⟨#[97]⟩) := (op_cells HOD.out).selfp
  have c_selfn : w6.drew.cell? ⟨w.heap.size + 1 + 1, 2, none⟩ = some (.int .i64 0) := (op_cells HOD.out).selfn
  have c_parentp : w6.drew.cell? ⟨w.heap.size + 1 + 1, 3, none⟩ = some (.string ⟨#[]⟩) := (op_cells HOD.out).parentp
  have c_parentn : w6.drew.cell? ⟨w.heap.size + 1 + 1, 4, none⟩ = some (.int .i64 0) := (op_cells HOD.out).parentn
  have c_dstp : w6.drew.cell? ⟨w.heap.size + 1 + 1, 5, none⟩ = some (.string ⟨#[]⟩) := (op_cells HOD.out).dstp
  have c_dstn : w6.drew.cell? ⟨w.heap.size + 1 + 1, 6, none⟩ = some (.int .i64 0) := (op_cells HOD.out).dstn
  have c_name : w6.drew.cell? ⟨w.heap.size + 1 + 1, 7, none⟩ = some (.string ⟨#[]⟩) := (op_cells HOD.out).name
  have c_dname : w6.drew.cell? ⟨w.heap.size + 1 + 1, 8, none⟩ = some (.string ⟨#[]⟩) := (op_cells HOD.out).dname
  have c_leftp : w6.drew.cell? ⟨w.heap.size + 1 + 1, 9, none⟩ = some (.string ⟨#[]⟩) := (op_cells HOD.out).leftp
  have c_leftn : w6.drew.cell? ⟨w.heap.size + 1 + 1, 10, none⟩ = some (.int .i64 1) := (op_cells HOD.out).leftn
  have c_rightp : w6.drew.cell? ⟨w.heap.size + 1 + 1, 11, none⟩ = some (.string ⟨#[]⟩) := (op_cells HOD.out).rightp
  have c_rightn : w6.drew.cell? ⟨w.heap.size + 1 + 1, 12, none⟩ = some (.int .i64 2) := (op_cells HOD.out).rightn
  have c_dels : w6.drew.cell? ⟨w.heap.size + 1 + 1, 13, none⟩ = some (.slice none 0 0) := (op_cells HOD.out).dels
  have c_first : w6.drew.cell? ⟨w.heap.size + 1 + 1, 14, none⟩ = some (.int .i64 1) := (op_cells HOD.out).first
  have c_lines : w6.drew.cell? ⟨w.heap.size + 1 + 1, 15, none⟩ = some (.slice (some ⟨w.heap.size + 1, 0, none⟩) 2 2) := (op_cells HOD.out).lines
  go_cut [7, 8] from 25 to 28 (fun cv nv wx => ∃ gc gn cc cn : Nat, cv = .slice (some ⟨gc, 0, none⟩) 2 cc ∧ nv = .slice (some ⟨gn, 0, none⟩) 1 cn ∧ Hid (Ids wx wx.heap.size (some ⟨gc, 0, none⟩) [⟨⟨#[97]⟩, 1⟩, ⟨⟨#[97]⟩, 2⟩] ∧ Ids wx wx.heap.size (some ⟨gn, 0, none⟩) [⟨⟨#[97]⟩, 0⟩] ∧ Below w6.heap.size w6 wx))
  case first =>
    as_aux_lemma =>
        go_region_law (first
          | (go_simp
             go_at_call 15
             refine (CC.out _ HDR.out).mono ?_
             rintro e v5 ⟨gc, cc, rfl, hc5, hb5⟩
             have hb5w := HDR.out.trans (hb5.mono HDR.out.size)
             have hod5 := HOD.out.on hb5
             have e_kind : v5.cell? ⟨w.heap.size + 1 + 1, 0, none⟩ = some (.int .i64 5) := (op_cells hod5).kind
             have e_selfp : v5.cell? ⟨w.heap.size + 1 + 1, 1, none⟩ = some (.string ⟨#[97]⟩) := (op_cells hod5).selfp
             have e_selfn : v5.cell? ⟨w.heap.size + 1 + 1, 2, none⟩ = some (.int .i64 0) := (op_cells hod5).selfn
             have e_parentp : v5.cell? ⟨w.heap.size + 1 + 1, 3, none⟩ = some (.string ⟨#[]⟩) := (op_cells hod5).parentp
             have e_parentn : v5.cell? ⟨w.heap.size + 1 + 1, 4, none⟩ = some (.int .i64 0) := (op_cells hod5).parentn
             have e_dstp : v5.cell? ⟨w.heap.size + 1 + 1, 5, none⟩ = some (.string ⟨#[]⟩) := (op_cells hod5).dstp
             have e_dstn : v5.cell? ⟨w.heap.size + 1 + 1, 6, none⟩ = some (.int .i64 0) := (op_cells hod5).dstn
             have e_name : v5.cell? ⟨w.heap.size + 1 + 1, 7, none⟩ = some (.string ⟨#[]⟩) := (op_cells hod5).name
             have e_dname : v5.cell? ⟨w.heap.size + 1 + 1, 8, none⟩ = some (.string ⟨#[]⟩) := (op_cells hod5).dname
             have e_leftp : v5.cell? ⟨w.heap.size + 1 + 1, 9, none⟩ = some (.string ⟨#[]⟩) := (op_cells hod5).leftp
             have e_leftn : v5.cell? ⟨w.heap.size + 1 + 1, 10, none⟩ = some (.int .i64 1) := (op_cells hod5).leftn
             have e_rightp : v5.cell? ⟨w.heap.size + 1 + 1, 11, none⟩ = some (.string ⟨#[]⟩) := (op_cells hod5).rightp
             have e_rightn : v5.cell? ⟨w.heap.size + 1 + 1, 12, none⟩ = some (.int .i64 2) := (op_cells hod5).rightn
             have e_dels : v5.cell? ⟨w.heap.size + 1 + 1, 13, none⟩ = some (.slice none 0 0) := (op_cells hod5).dels
             have e_first : v5.cell? ⟨w.heap.size + 1 + 1, 14, none⟩ = some (.int .i64 1) := (op_cells hod5).first
             have e_lines : v5.cell? ⟨w.heap.size + 1 + 1, 15, none⟩ = some (.slice (some ⟨w.heap.size + 1, 0, none⟩) 2 2) := (op_cells hod5).lines)
          | (go_simp
             go_at_call 16
             refine (CI.out _ hb5w).mono ?_
             rintro e v6 ⟨gn, cn, rfl, hc6, hb6⟩
             have hb6w := hb5w.trans (hb6.mono hb5w.size)
             have hc56 := hc5.on hb6))
        all_goals
          (try go_wp2_with fail)
          go_meet
          case rel => exact ⟨gc, gn, cc, cn, rfl, rfl, hc56, hc6, hb6w⟩
  case rest =>
    obtain ⟨gc, gn, cc, cn, rfl, rfl, HCUT⟩ := hcut
    clear c_kind c_selfp c_selfn c_parentp c_parentn c_dstp c_dstn c_name c_dname c_leftp c_leftn c_rightp c_rightn c_dels c_first c_lines HDR HOD CC CI
    have hb := HCUT.out.2.2
    replace HO := Lib.hid (HO.out.on hb)
    replace HF := Lib.hid (HF.out.on hb)
    replace HB := Lib.hid (HB.out.trans (hb.mono HB.out.size))
    replace HOK := Lib.hid (HOK.out.on hb)
    replace HT := Lib.hid (Tabs.on HT.out hb)
    replace HZ := Lib.hid (HZ.out.on hb)
    replace HZO := Lib.hid (HZO.out.on hb)
    have hic := HCUT.out.1
    have hin := HCUT.out.2.1
    obtain ⟨b', o', e1, _, _, d1⟩ := ids_get hic (j := 1) (by simp)
    obtain ⟨b'', o'', e2, _, n0, n1⟩ := ids_get hin (j := 0) (by simp)
    simp only [Option.some.injEq, Addr.mk.injEq, and_true] at e1 e2
    obtain ⟨rfl, rfl⟩ := e1
    obtain ⟨rfl, rfl⟩ := e2
    have x1 : ∀ d os, (grow (redrawn wc d) os).cell? ⟨gc, 3, none⟩ = some (.int .i64 2) := fun d os => cell_regrown d1 d os
    have x2 : ∀ d os, (grow (redrawn wc d) os).cell? ⟨gn, 0, none⟩ = some (.string ⟨#[97]⟩) := fun d os => cell_regrown n0 d os
    have x3 : ∀ d os, (grow (redrawn wc d) os).cell? ⟨gn, 1, none⟩ = some (.int .i64 0) := fun d os => cell_regrown n1 d os
    have x4 : ∀ d os, (grow (redrawn wc d) os).cell? ⟨w.heap.size, 0, none⟩ = some (.string ⟨#[97]⟩) := fun d os => cell_regrown (id_c0 HF.out) d os
    have x5 : ∀ d os, (grow (redrawn wc d) os).cell? ⟨w.heap.size, 1, none⟩ = some (.int .i64 0) := fun d os => cell_regrown (id_c1 HF.out) d os
    have EQ : ∀ W, (binOp .eql 23 (.agg #[.string ⟨#[97]⟩, .int .i64 0]) (.agg #[.string ⟨#[97]⟩, .int .i64 0])).run Tryz.prog W = .ok (.bool true) W := fun W => (eql_id ⟨⟨#[97]⟩, 0⟩ ⟨⟨#[97]⟩, 0⟩ W).trans (by rw [decide_eq_true rfl])
    have L1 : ∀ W, (∃ p : Regrown, W = grow (redrawn wc p.d) p.os) → (loadVar 27 ⟨w.heap.size + 1 + 1, 0, none⟩).run Tryz.prog W = .ok (.agg #[.int .i64 5, .string ⟨#[97]⟩, .int .i64 0, .string ⟨#[]⟩, .int .i64 0, .string ⟨#[]⟩, .int .i64 0, .string ⟨#[]⟩, .string ⟨#[]⟩, .string ⟨#[]⟩, .int .i64 1, .string ⟨#[]⟩, .int .i64 2, .slice none 0 0, .int .i64 1, .slice (some ⟨w.heap.size + 1, 0, none⟩) 2 2]) W := op_loaded HO.out
    have L2 := op_loaded HZ.out
    have n1 := q_of (fun W (hW : Below wc.heap.size wc W) => (show Calls Tryz.prog 10 #[.agg #[.int .i64 5, .string ⟨#[97]⟩, .int .i64 0, .string ⟨#[]⟩, .int .i64 0, .string ⟨#[]⟩, .int .i64 0, .string ⟨#[]⟩, .string ⟨#[]⟩, .string ⟨#[]⟩, .int .i64 1, .string ⟨#[]⟩, .int .i64 2, .slice none 0 0, .int .i64 1, .slice (some ⟨w.heap.size + 1, 0, none⟩) 2 2], .agg #[.int .i64 z.kind, .string z.self.p, .int .i64 z.self.n, .string z.parent.p, .int .i64 z.parent.n, .string z.dst.p, .int .i64 z.dst.n, .string z.name, .string z.dname, .string z.left.p, .int .i64 z.left.n, .string z.right.p, .int .i64 z.right.n, .slice z.a1 z.dels.length z.c1, .int .i64 z.first, .slice z.a2 z.lines.length z.c2]] W fun e w' => e = .returned (.bool true) ∧ Below W.heap.size W w' from opsamek_any (awO (w.heap.size + 1)) z W (HOK.out.on hW) (HZO.out.on hW) (awO_sz _) HZS.out true (decide_eq_true (by rw [awO_key, HZK.out]))))
    have n2 := q_of (fun W (hW : Below wc.heap.size wc W) => (show Calls Tryz.prog 9 #[.agg #[.int .i64 0, .string ⟨#[]⟩, .int .i64 0, .string ⟨#[]⟩, .int .i64 0, .string ⟨#[]⟩, .int .i64 0, .string ⟨#[]⟩, .string ⟨#[]⟩, .string ⟨#[]⟩, .int .i64 0, .string ⟨#[]⟩, .int .i64 0, .slice none 0 0, .int .i64 0, .slice none 0 0]] W fun e w' => e = .returned (.int .i64 2) ∧ Below W.heap.size W w' from opcheckr_any zeroM W (zeroM_ok _ _) zeroM_sz (Tabs.on HT.out hW) 2 (by rw [zeroK_may]; rfl)))
    clear hb hic hin d1 n0
    as_aux_lemma =>
        -- @P4
        go_upto_region 6 with (fail)
        refine wp_region_quiet_below (by kernel_rfl) (by kernel_rfl) ?_
        repeat (first | go_big_quiet_skip | (go_big_quiet_want; first | (refine quiet_load 27 _ rfl ⟨w.heap.size + 1 + 1, 0, none⟩ rfl _ L1 ?_; simp only [Act.put, List.setIfInBounds_toArray, List.set_cons_succ, List.set_cons_zero]; go_big_quiet_on) | (refine quiet_load 27 _ rfl ⟨gz, 0, none⟩ rfl _ L2 ?_; simp only [Act.put, List.setIfInBounds_toArray, List.set_cons_succ, List.set_cons_zero]; go_big_quiet_on) | (go_big_quiet_op; first | go_big_quiet_on | go_big_quiet_call (first | with_reducible exact n1 _ _ | with_reducible exact n2 _ _))))
        refine wpQuiet_nil ?_
        intro _ hw'
        obtain ⟨⟨dq, osq⟩, hw''⟩ := hw'
        subst hw''
        have HBE := Lib.hid (HB.out.trans ((below_regrown wc dq osq).mono HB.out.size))
        generalize grow (redrawn wc dq) osq = wz at *
        go_wp2
        go_ret
        exact ⟨rfl, HBE.out⟩
end Go.Proofs.YtioknegeebgdbaaGreatDoor
