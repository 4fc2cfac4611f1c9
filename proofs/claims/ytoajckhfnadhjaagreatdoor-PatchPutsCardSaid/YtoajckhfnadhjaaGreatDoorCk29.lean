/- awake of layer 13. -/
import Derived.ChangeOld
import Derived.SliceStrings
import Derived.WideShapes
import Derived.Deep.Slices
import Derived.Deep.Fields
import Derived.ChangeSame
import Derived.ChangeArms
import Derived.SizedLaws
import Derived.BigRegion
import Derived.Deep.RegionWith
import Derived.BigQuiet
import Derived.Deep.QuietTactic
import Derived.Handy
import Derived.Deep.CutRange
import Derived.Deep.RegionLaw
import Derived.Lib.QuietBelow
import Derived.Deep.RegionHeld
import Derived.Test.YtoajckhfnadhjaaGreatDoorCk16
namespace Go.Proofs.YtoajckhfnadhjaaGreatDoor
open Go.RowKit
set_option linter.unusedVariables false

theorem olt_of_key {x y : Om} (h : x.Lt) (k : y.key = x.key) : y.Lt := by
  have f : ∀ {a b : ByteArray}, a.data.toList = b.data.toList → a = b := fun h => bytes_inj h
  have k1 : y.name = x.name := f (congrArg OpK.name k)
  have k2 : y.dname = x.dname := f (congrArg OpK.dname k)
  have k3 : y.self = x.self := Im.key_inj (congrArg OpK.self k)
  have k4 : y.parent = x.parent := Im.key_inj (congrArg OpK.parent k)
  have k5 : y.dst = x.dst := Im.key_inj (congrArg OpK.dst k)
  have k6 : y.left = x.left := Im.key_inj (congrArg OpK.left k)
  have k7 : y.right = x.right := Im.key_inj (congrArg OpK.right k)
  have k8 : y.dels = x.dels := ikeys_inj (congrArg OpK.dels k)
  have k9 : y.lines = x.lines := congrArg OpK.lines k
  exact ⟨by rw [k1]; exact h.name, by rw [k2]; exact h.dname, by rw [k3]; exact h.self, by rw [k4]; exact h.parent, by rw [k5]; exact h.dst, by rw [k6]; exact h.left, by rw [k7]; exact h.right, by rw [k8]; exact h.few, by rw [k9]; exact h.lines, by rw [k8]; exact h.dels⟩
theorem lt_of_key {x y : Ptm} (h : x.Lt) (k : y.key = x.key) : y.Lt := by
  have k1 : y.name = x.name := bytes_inj (congrArg PatK.name k)
  have k2 : y.deps = x.deps := congrArg PatK.deps k
  have k3 : okeys y.ops = okeys x.ops := congrArg PatK.ops k
  have k4 : y.ops.length = x.ops.length := by rw [← okeys_len y.ops, k3, okeys_len]
  refine ⟨by rw [k1]; exact h.name, by rw [k2]; exact h.few, by rw [k4]; exact h.many, by rw [k2]; exact h.deps, fun o ho => ?_⟩
  have h2 : o.key ∈ okeys x.ops := by rw [← k3]; exact List.mem_map.2 ⟨o, ho, rfl⟩
  obtain ⟨p, hp, e⟩ := List.mem_map.1 h2
  exact olt_of_key (h.ops p hp) e.symm
theorem in_of_lt {x : Ptm} (h : x.Lt) : x.In := by
  have h1 := h.name
  have h2 := h.few
  have h3 := h.many
  refine ⟨by omega, by omega, by omega, fun o ho => ?_⟩
  have k := h.ops o ho
  have l := lt_lines k
  exact ⟨by have := k.name; omega, by have := k.dname; omega, by have := k.self; omega, by have := k.parent; omega, by have := k.dst; omega, by have := k.left; omega, by have := k.right; omega, by have := k.few; omega, by omega⟩
theorem two_ops (w : World) (x q : Om) (hx : x.Ok w w.heap.size) (hq : q.Ok w w.heap.size) : Below w.heap.size w (w.alloc (.cells #[.int .i64 x.kind, .string x.self.p, .int .i64 x.self.n, .string x.parent.p, .int .i64 x.parent.n, .string x.dst.p, .int .i64 x.dst.n, .string x.name, .string x.dname, .string x.left.p, .int .i64 x.left.n, .string x.right.p, .int .i64 x.right.n, .slice x.a1 x.dels.length x.c1, .int .i64 x.first, .slice x.a2 x.lines.length x.c2, .int .i64 q.kind, .string q.self.p, .int .i64 q.self.n, .string q.parent.p, .int .i64 q.parent.n, .string q.dst.p, .int .i64 q.dst.n, .string q.name, .string q.dname, .string q.left.p, .int .i64 q.left.n, .string q.right.p, .int .i64 q.right.n, .slice q.a1 q.dels.length q.c1, .int .i64 q.first, .slice q.a2 q.lines.length q.c2] 42)) ∧ Ops (w.alloc (.cells #[.int .i64 x.kind, .string x.self.p, .int .i64 x.self.n, .string x.parent.p, .int .i64 x.parent.n, .string x.dst.p, .int .i64 x.dst.n, .string x.name, .string x.dname, .string x.left.p, .int .i64 x.left.n, .string x.right.p, .int .i64 x.right.n, .slice x.a1 x.dels.length x.c1, .int .i64 x.first, .slice x.a2 x.lines.length x.c2, .int .i64 q.kind, .string q.self.p, .int .i64 q.self.n, .string q.parent.p, .int .i64 q.parent.n, .string q.dst.p, .int .i64 q.dst.n, .string q.name, .string q.dname, .string q.left.p, .int .i64 q.left.n, .string q.right.p, .int .i64 q.right.n, .slice q.a1 q.dels.length q.c1, .int .i64 q.first, .slice q.a2 q.lines.length q.c2] 42)) (w.alloc (.cells #[.int .i64 x.kind, .string x.self.p, .int .i64 x.self.n, .string x.parent.p, .int .i64 x.parent.n, .string x.dst.p, .int .i64 x.dst.n, .string x.name, .string x.dname, .string x.left.p, .int .i64 x.left.n, .string x.right.p, .int .i64 x.right.n, .slice x.a1 x.dels.length x.c1, .int .i64 x.first, .slice x.a2 x.lines.length x.c2, .int .i64 q.kind, .string q.self.p, .int .i64 q.self.n, .string q.parent.p, .int .i64 q.parent.n, .string q.dst.p, .int .i64 q.dst.n, .string q.name, .string q.dname, .string q.left.p, .int .i64 q.left.n, .string q.right.p, .int .i64 q.right.n, .slice q.a1 q.dels.length q.c1, .int .i64 q.first, .slice q.a2 q.lines.length q.c2] 42)).heap.size (some ⟨w.heap.size, 0, none⟩) [x, q] := by
  have HO : opR.Own (w.alloc (.cells #[.int .i64 x.kind, .string x.self.p, .int .i64 x.self.n, .string x.parent.p, .int .i64 x.parent.n, .string x.dst.p, .int .i64 x.dst.n, .string x.name, .string x.dname, .string x.left.p, .int .i64 x.left.n, .string x.right.p, .int .i64 x.right.n, .slice x.a1 x.dels.length x.c1, .int .i64 x.first, .slice x.a2 x.lines.length x.c2, .int .i64 q.kind, .string q.self.p, .int .i64 q.self.n, .string q.parent.p, .int .i64 q.parent.n, .string q.dst.p, .int .i64 q.dst.n, .string q.name, .string q.dname, .string q.left.p, .int .i64 q.left.n, .string q.right.p, .int .i64 q.right.n, .slice q.a1 q.dels.length q.c1, .int .i64 q.first, .slice q.a2 q.lines.length q.c2] 42)) w.heap.size (.slice (some ⟨w.heap.size, 0, none⟩) 2 2) [x, q] := World.ownsRow_lit (base := w.heap.size) (e := 42) (size := 16) w #[.int .i64 x.kind, .string x.self.p, .int .i64 x.self.n, .string x.parent.p, .int .i64 x.parent.n, .string x.dst.p, .int .i64 x.dst.n, .string x.name, .string x.dname, .string x.left.p, .int .i64 x.left.n, .string x.right.p, .int .i64 x.right.n, .slice x.a1 x.dels.length x.c1, .int .i64 x.first, .slice x.a2 x.lines.length x.c2, .int .i64 q.kind, .string q.self.p, .int .i64 q.self.n, .string q.parent.p, .int .i64 q.parent.n, .string q.dst.p, .int .i64 q.dst.n, .string q.name, .string q.dname, .string q.left.p, .int .i64 q.left.n, .string q.right.p, .int .i64 q.right.n, .slice q.a1 q.dels.length q.c1, .int .i64 q.first, .slice q.a2 q.lines.length q.c2] 2 (Nat.le_refl _) (by decide) rfl
  have hb : Below w.heap.size w (w.alloc (.cells #[.int .i64 x.kind, .string x.self.p, .int .i64 x.self.n, .string x.parent.p, .int .i64 x.parent.n, .string x.dst.p, .int .i64 x.dst.n, .string x.name, .string x.dname, .string x.left.p, .int .i64 x.left.n, .string x.right.p, .int .i64 x.right.n, .slice x.a1 x.dels.length x.c1, .int .i64 x.first, .slice x.a2 x.lines.length x.c2, .int .i64 q.kind, .string q.self.p, .int .i64 q.self.n, .string q.parent.p, .int .i64 q.parent.n, .string q.dst.p, .int .i64 q.dst.n, .string q.name, .string q.dname, .string q.left.p, .int .i64 q.left.n, .string q.right.p, .int .i64 q.right.n, .slice q.a1 q.dels.length q.c1, .int .i64 q.first, .slice q.a2 q.lines.length q.c2] 42)) := (Below.refl _ _).alloc (Nat.le_refl _) _
  refine ⟨hb, HO.parts.2.1, fun y hy => ?_⟩
  have e : y = x ∨ y = q := by simpa using hy
  rcases e with rfl | rfl
  · exact hx.on hb
  · exact hq.on hb
def zI : Im := ⟨⟨#[]⟩, 0⟩
def awO1 : Om := ⟨2, ⟨⟨#[97]⟩, 0⟩, zI, zI, ⟨#[120]⟩, ⟨#[]⟩, zI, zI, none, 0, [], 0, none, 0, []⟩
def awO2 (g : Nat) : Om := ⟨5, ⟨⟨#[97]⟩, 0⟩, zI, zI, ⟨#[]⟩, ⟨#[]⟩, ⟨⟨#[]⟩, 1⟩, ⟨⟨#[]⟩, 2⟩, none, 0, [], 1, some ⟨g, 0, none⟩, 1, [[108]]⟩
def awP (g gl : Nat) : Ptm := ⟨⟨#[97]⟩, none, 0, [], some ⟨gl, 0, none⟩, 2, [awO1, awO2 g]⟩
def awPK : PatK := ⟨[97], [], [⟨2, ([97], 0), ([], 0), ([], 0), [120], [], ([], 0), ([], 0), [], 0, []⟩, ⟨5, ([97], 0), ([], 0), ([], 0), [], [], ([], 1), ([], 2), [], 1, [[108]]⟩]⟩
def badT : Ptm := ⟨⟨#[65]⟩, none, 0, [], none, 0, []⟩
theorem badT_ok (w : World) (B : Nat) : badT.Ok w B := ⟨Strs.none_, ⟨fun _ => rfl, Nat.le_refl _⟩, ⟨Rk.Row.nil, fun x hx => by simp [badT] at hx⟩, ⟨fun _ => rfl, Nat.le_refl _⟩⟩
theorem badT_lt : badT.Lt := ⟨by decide, by decide, by decide, fun d hd => by simp [badT] at hd, fun o ho => by simp [badT] at ho⟩
theorem badT_check : checkP badT.key = 7 := by decide +kernel
theorem awP_ok : checkP awPK = 0 := by decide +kernel
theorem awP_bytes : (putP awPK).length ≤ 500000 := by decide +kernel
theorem awP_lt (g gl : Nat) : (awP g gl).Lt := by
  refine ⟨Nat.le_of_ble_eq_true rfl, Nat.le_of_ble_eq_true rfl, Nat.le_of_ble_eq_true rfl, fun d hd => by simp [awP] at hd, fun o ho => ?_⟩
  have e : o = awO1 ∨ o = awO2 g := by simpa [awP] using ho
  rcases e with rfl | rfl
  · exact ⟨Nat.le_of_ble_eq_true rfl, Nat.le_of_ble_eq_true rfl, Nat.le_of_ble_eq_true rfl, Nat.le_of_ble_eq_true rfl, Nat.le_of_ble_eq_true rfl, Nat.le_of_ble_eq_true rfl, Nat.le_of_ble_eq_true rfl, Nat.le_of_ble_eq_true rfl, rfl, fun i hi => by simp [awO1] at hi⟩
  · exact ⟨Nat.le_of_ble_eq_true rfl, Nat.le_of_ble_eq_true rfl, Nat.le_of_ble_eq_true rfl, Nat.le_of_ble_eq_true rfl, Nat.le_of_ble_eq_true rfl, Nat.le_of_ble_eq_true rfl, Nat.le_of_ble_eq_true rfl, Nat.le_of_ble_eq_true rfl, rfl, fun i hi => by simp [awO2] at hi⟩
set_option maxHeartbeats 8000000 in
set_option maxRecDepth 100000 in
theorem pataw_any (c : PatC) : AwP := by
  intro w hT hN
  obtain ⟨b1, -⟩ := id_box w ⟨⟨#[97]⟩, 0⟩
  have b2 : Below (w.alloc (.cells #[.string ⟨#[97]⟩, .int .i64 0] 40)).heap.size (w.alloc (.cells #[.string ⟨#[97]⟩, .int .i64 0] 40)) ((w.alloc (.cells #[.string ⟨#[97]⟩, .int .i64 0] 40)).alloc (.cells #[.string ⟨#[108]⟩] 9)) := (Below.refl _ _).alloc (Nat.le_refl _) _
  have hs2 : Strs ((w.alloc (.cells #[.string ⟨#[97]⟩, .int .i64 0] 40)).alloc (.cells #[.string ⟨#[108]⟩] 9)) ((w.alloc (.cells #[.string ⟨#[97]⟩, .int .i64 0] 40)).alloc (.cells #[.string ⟨#[108]⟩] 9)).heap.size (some ⟨(w.alloc (.cells #[.string ⟨#[97]⟩, .int .i64 0] 40)).heap.size, 0, none⟩) (toBs [[108]]) := by
    intro _
    refine ⟨_, 0, rfl, by simp, fun j hj => ?_⟩
    have hj2 : j = 0 := by simp [toBs] at hj; omega
    subst hj2
    rw [World.cell?_alloc_new]
    rfl
  rw [show (w.alloc (.cells #[.string ⟨#[97]⟩, .int .i64 0] 40)).heap.size = w.heap.size + 1 by simp] at hs2
  have ok1 : awO1.Ok ((w.alloc (.cells #[.string ⟨#[97]⟩, .int .i64 0] 40)).alloc (.cells #[.string ⟨#[108]⟩] 9)) ((w.alloc (.cells #[.string ⟨#[97]⟩, .int .i64 0] 40)).alloc (.cells #[.string ⟨#[108]⟩] 9)).heap.size := ⟨Rk.Row.nil, ⟨fun _ => rfl, Nat.le_refl _⟩, Strs.none_, ⟨fun _ => rfl, Nat.le_refl _⟩⟩
  have ok2 : (awO2 (w.heap.size + 1)).Ok ((w.alloc (.cells #[.string ⟨#[97]⟩, .int .i64 0] 40)).alloc (.cells #[.string ⟨#[108]⟩] 9)) ((w.alloc (.cells #[.string ⟨#[97]⟩, .int .i64 0] 40)).alloc (.cells #[.string ⟨#[108]⟩] 9)).heap.size := ⟨Rk.Row.nil, ⟨fun _ => rfl, Nat.le_refl _⟩, hs2, ⟨(fun e => by cases e), Nat.le_refl _⟩⟩
  obtain ⟨b3, ho3⟩ := two_ops ((w.alloc (.cells #[.string ⟨#[97]⟩, .int .i64 0] 40)).alloc (.cells #[.string ⟨#[108]⟩] 9)) awO1 (awO2 (w.heap.size + 1)) ok1 ok2
  have b3' : Below ((w.alloc (.cells #[.string ⟨#[97]⟩, .int .i64 0] 40)).alloc (.cells #[.string ⟨#[108]⟩] 9)).heap.size ((w.alloc (.cells #[.string ⟨#[97]⟩, .int .i64 0] 40)).alloc (.cells #[.string ⟨#[108]⟩] 9)) (((w.alloc (.cells #[.string ⟨#[97]⟩, .int .i64 0] 40)).alloc (.cells #[.string ⟨#[108]⟩] 9)).alloc (.cells #[.int .i64 2, .string ⟨#[97]⟩, .int .i64 0, .string ⟨#[]⟩, .int .i64 0, .string ⟨#[]⟩, .int .i64 0, .string ⟨#[120]⟩, .string ⟨#[]⟩, .string ⟨#[]⟩, .int .i64 0, .string ⟨#[]⟩, .int .i64 0, .slice none 0 0, .int .i64 0, .slice none 0 0, .int .i64 5, .string ⟨#[97]⟩, .int .i64 0, .string ⟨#[]⟩, .int .i64 0, .string ⟨#[]⟩, .int .i64 0, .string ⟨#[]⟩, .string ⟨#[]⟩, .string ⟨#[]⟩, .int .i64 1, .string ⟨#[]⟩, .int .i64 2, .slice none 0 0, .int .i64 1, .slice (some ⟨w.heap.size + 1, 0, none⟩) 1 1] 42)) := b3
  have ho3' : Ops (((w.alloc (.cells #[.string ⟨#[97]⟩, .int .i64 0] 40)).alloc (.cells #[.string ⟨#[108]⟩] 9)).alloc (.cells #[.int .i64 2, .string ⟨#[97]⟩, .int .i64 0, .string ⟨#[]⟩, .int .i64 0, .string ⟨#[]⟩, .int .i64 0, .string ⟨#[120]⟩, .string ⟨#[]⟩, .string ⟨#[]⟩, .int .i64 0, .string ⟨#[]⟩, .int .i64 0, .slice none 0 0, .int .i64 0, .slice none 0 0, .int .i64 5, .string ⟨#[97]⟩, .int .i64 0, .string ⟨#[]⟩, .int .i64 0, .string ⟨#[]⟩, .int .i64 0, .string ⟨#[]⟩, .string ⟨#[]⟩, .string ⟨#[]⟩, .int .i64 1, .string ⟨#[]⟩, .int .i64 2, .slice none 0 0, .int .i64 1, .slice (some ⟨w.heap.size + 1, 0, none⟩) 1 1] 42)) (((w.alloc (.cells #[.string ⟨#[97]⟩, .int .i64 0] 40)).alloc (.cells #[.string ⟨#[108]⟩] 9)).alloc (.cells #[.int .i64 2, .string ⟨#[97]⟩, .int .i64 0, .string ⟨#[]⟩, .int .i64 0, .string ⟨#[]⟩, .int .i64 0, .string ⟨#[120]⟩, .string ⟨#[]⟩, .string ⟨#[]⟩, .int .i64 0, .string ⟨#[]⟩, .int .i64 0, .slice none 0 0, .int .i64 0, .slice none 0 0, .int .i64 5, .string ⟨#[97]⟩, .int .i64 0, .string ⟨#[]⟩, .int .i64 0, .string ⟨#[]⟩, .int .i64 0, .string ⟨#[]⟩, .string ⟨#[]⟩, .string ⟨#[]⟩, .int .i64 1, .string ⟨#[]⟩, .int .i64 2, .slice none 0 0, .int .i64 1, .slice (some ⟨w.heap.size + 1, 0, none⟩) 1 1] 42)).heap.size (some ⟨((w.alloc (.cells #[.string ⟨#[97]⟩, .int .i64 0] 40)).alloc (.cells #[.string ⟨#[108]⟩] 9)).heap.size, 0, none⟩) [awO1, awO2 (w.heap.size + 1)] := ho3
  rw [show ((w.alloc (.cells #[.string ⟨#[97]⟩, .int .i64 0] 40)).alloc (.cells #[.string ⟨#[108]⟩] 9)).heap.size = w.heap.size + 1 + 1 by simp] at ho3'
  obtain ⟨b4, hp4⟩ := patb_box (((w.alloc (.cells #[.string ⟨#[97]⟩, .int .i64 0] 40)).alloc (.cells #[.string ⟨#[108]⟩] 9)).alloc (.cells #[.int .i64 2, .string ⟨#[97]⟩, .int .i64 0, .string ⟨#[]⟩, .int .i64 0, .string ⟨#[]⟩, .int .i64 0, .string ⟨#[120]⟩, .string ⟨#[]⟩, .string ⟨#[]⟩, .int .i64 0, .string ⟨#[]⟩, .int .i64 0, .slice none 0 0, .int .i64 0, .slice none 0 0, .int .i64 5, .string ⟨#[97]⟩, .int .i64 0, .string ⟨#[]⟩, .int .i64 0, .string ⟨#[]⟩, .int .i64 0, .string ⟨#[]⟩, .string ⟨#[]⟩, .string ⟨#[]⟩, .int .i64 1, .string ⟨#[]⟩, .int .i64 2, .slice none 0 0, .int .i64 1, .slice (some ⟨w.heap.size + 1, 0, none⟩) 1 1] 42)) (.string ⟨#[97]⟩) (.slice none 0 0) (.slice (some ⟨w.heap.size + 1 + 1, 0, none⟩) 2 2)
  rw [show (((w.alloc (.cells #[.string ⟨#[97]⟩, .int .i64 0] 40)).alloc (.cells #[.string ⟨#[108]⟩] 9)).alloc (.cells #[.int .i64 2, .string ⟨#[97]⟩, .int .i64 0, .string ⟨#[]⟩, .int .i64 0, .string ⟨#[]⟩, .int .i64 0, .string ⟨#[120]⟩, .string ⟨#[]⟩, .string ⟨#[]⟩, .int .i64 0, .string ⟨#[]⟩, .int .i64 0, .slice none 0 0, .int .i64 0, .slice none 0 0, .int .i64 5, .string ⟨#[97]⟩, .int .i64 0, .string ⟨#[]⟩, .int .i64 0, .string ⟨#[]⟩, .int .i64 0, .string ⟨#[]⟩, .string ⟨#[]⟩, .string ⟨#[]⟩, .int .i64 1, .string ⟨#[]⟩, .int .i64 2, .slice none 0 0, .int .i64 1, .slice (some ⟨w.heap.size + 1, 0, none⟩) 1 1] 42)).heap.size = w.heap.size + 1 + 1 + 1 by simp] at hp4
  have b12 := b1.trans (b2.mono b1.size)
  have b123 := b12.trans (b3'.mono b12.size)
  have b1234 := b123.trans (b4.mono b123.size)
  have HP := Lib.hid hp4
  have HOK : Hid ((awP (w.heap.size + 1) (w.heap.size + 1 + 1)).Ok ((((w.alloc (.cells #[.string ⟨#[97]⟩, .int .i64 0] 40)).alloc (.cells #[.string ⟨#[108]⟩] 9)).alloc (.cells #[.int .i64 2, .string ⟨#[97]⟩, .int .i64 0, .string ⟨#[]⟩, .int .i64 0, .string ⟨#[]⟩, .int .i64 0, .string ⟨#[120]⟩, .string ⟨#[]⟩, .string ⟨#[]⟩, .int .i64 0, .string ⟨#[]⟩, .int .i64 0, .slice none 0 0, .int .i64 0, .slice none 0 0, .int .i64 5, .string ⟨#[97]⟩, .int .i64 0, .string ⟨#[]⟩, .int .i64 0, .string ⟨#[]⟩, .int .i64 0, .string ⟨#[]⟩, .string ⟨#[]⟩, .string ⟨#[]⟩, .int .i64 1, .string ⟨#[]⟩, .int .i64 2, .slice none 0 0, .int .i64 1, .slice (some ⟨w.heap.size + 1, 0, none⟩) 1 1] 42)).alloc (.cells #[.string ⟨#[97]⟩, .slice none 0 0, .slice (some ⟨w.heap.size + 1 + 1, 0, none⟩) 2 2] 25)) ((((w.alloc (.cells #[.string ⟨#[97]⟩, .int .i64 0] 40)).alloc (.cells #[.string ⟨#[108]⟩] 9)).alloc (.cells #[.int .i64 2, .string ⟨#[97]⟩, .int .i64 0, .string ⟨#[]⟩, .int .i64 0, .string ⟨#[]⟩, .int .i64 0, .string ⟨#[120]⟩, .string ⟨#[]⟩, .string ⟨#[]⟩, .int .i64 0, .string ⟨#[]⟩, .int .i64 0, .slice none 0 0, .int .i64 0, .slice none 0 0, .int .i64 5, .string ⟨#[97]⟩, .int .i64 0, .string ⟨#[]⟩, .int .i64 0, .string ⟨#[]⟩, .int .i64 0, .string ⟨#[]⟩, .string ⟨#[]⟩, .string ⟨#[]⟩, .int .i64 1, .string ⟨#[]⟩, .int .i64 2, .slice none 0 0, .int .i64 1, .slice (some ⟨w.heap.size + 1, 0, none⟩) 1 1] 42)).alloc (.cells #[.string ⟨#[97]⟩, .slice none 0 0, .slice (some ⟨w.heap.size + 1 + 1, 0, none⟩) 2 2] 25)).heap.size) := ⟨Strs.none_, ⟨fun _ => rfl, Nat.le_refl _⟩, ho3'.on b4, ⟨(fun e => by cases e), Nat.le_refl _⟩⟩
  have HB : Hid (Below w.heap.size w ((((w.alloc (.cells #[.string ⟨#[97]⟩, .int .i64 0] 40)).alloc (.cells #[.string ⟨#[108]⟩] 9)).alloc (.cells #[.int .i64 2, .string ⟨#[97]⟩, .int .i64 0, .string ⟨#[]⟩, .int .i64 0, .string ⟨#[]⟩, .int .i64 0, .string ⟨#[120]⟩, .string ⟨#[]⟩, .string ⟨#[]⟩, .int .i64 0, .string ⟨#[]⟩, .int .i64 0, .slice none 0 0, .int .i64 0, .slice none 0 0, .int .i64 5, .string ⟨#[97]⟩, .int .i64 0, .string ⟨#[]⟩, .int .i64 0, .string ⟨#[]⟩, .int .i64 0, .string ⟨#[]⟩, .string ⟨#[]⟩, .string ⟨#[]⟩, .int .i64 1, .string ⟨#[]⟩, .int .i64 2, .slice none 0 0, .int .i64 1, .slice (some ⟨w.heap.size + 1, 0, none⟩) 1 1] 42)).alloc (.cells #[.string ⟨#[97]⟩, .slice none 0 0, .slice (some ⟨w.heap.size + 1 + 1, 0, none⟩) 2 2] 25))) := b1234
  have HT : Hid (Tabs ((((w.alloc (.cells #[.string ⟨#[97]⟩, .int .i64 0] 40)).alloc (.cells #[.string ⟨#[108]⟩] 9)).alloc (.cells #[.int .i64 2, .string ⟨#[97]⟩, .int .i64 0, .string ⟨#[]⟩, .int .i64 0, .string ⟨#[]⟩, .int .i64 0, .string ⟨#[120]⟩, .string ⟨#[]⟩, .string ⟨#[]⟩, .int .i64 0, .string ⟨#[]⟩, .int .i64 0, .slice none 0 0, .int .i64 0, .slice none 0 0, .int .i64 5, .string ⟨#[97]⟩, .int .i64 0, .string ⟨#[]⟩, .int .i64 0, .string ⟨#[]⟩, .int .i64 0, .string ⟨#[]⟩, .string ⟨#[]⟩, .string ⟨#[]⟩, .int .i64 1, .string ⟨#[]⟩, .int .i64 2, .slice none 0 0, .int .i64 1, .slice (some ⟨w.heap.size + 1, 0, none⟩) 1 1] 42)).alloc (.cells #[.string ⟨#[97]⟩, .slice none 0 0, .slice (some ⟨w.heap.size + 1 + 1, 0, none⟩) 2 2] 25))) := Tabs.on hT b1234
  have HN : Hid (Nums ((((w.alloc (.cells #[.string ⟨#[97]⟩, .int .i64 0] 40)).alloc (.cells #[.string ⟨#[108]⟩] 9)).alloc (.cells #[.int .i64 2, .string ⟨#[97]⟩, .int .i64 0, .string ⟨#[]⟩, .int .i64 0, .string ⟨#[]⟩, .int .i64 0, .string ⟨#[120]⟩, .string ⟨#[]⟩, .string ⟨#[]⟩, .int .i64 0, .string ⟨#[]⟩, .int .i64 0, .slice none 0 0, .int .i64 0, .slice none 0 0, .int .i64 5, .string ⟨#[97]⟩, .int .i64 0, .string ⟨#[]⟩, .int .i64 0, .string ⟨#[]⟩, .int .i64 0, .string ⟨#[]⟩, .string ⟨#[]⟩, .string ⟨#[]⟩, .int .i64 1, .string ⟨#[]⟩, .int .i64 2, .slice none 0 0, .int .i64 1, .slice (some ⟨w.heap.size + 1, 0, none⟩) 1 1] 42)).alloc (.cells #[.string ⟨#[97]⟩, .slice none 0 0, .slice (some ⟨w.heap.size + 1 + 1, 0, none⟩) 2 2] 25))) := hN.on b1234
  clear b1 b2 hs2 ok1 ok2 b3 ho3 b3' ho3' b4 hp4 b12 b123 b1234 hT hN
  go_enter Tryz.func7, Tryz.ntmps7
  go_upto_region 3 with (fail)
  generalize ((((w.alloc (.cells #[.string ⟨#[97]⟩, .int .i64 0] 40)).alloc (.cells #[.string ⟨#[108]⟩] 9)).alloc (.cells #[.int .i64 2, .string ⟨#[97]⟩, .int .i64 0, .string ⟨#[]⟩, .int .i64 0, .string ⟨#[]⟩, .int .i64 0, .string ⟨#[120]⟩, .string ⟨#[]⟩, .string ⟨#[]⟩, .int .i64 0, .string ⟨#[]⟩, .int .i64 0, .slice none 0 0, .int .i64 0, .slice none 0 0, .int .i64 5, .string ⟨#[97]⟩, .int .i64 0, .string ⟨#[]⟩, .int .i64 0, .string ⟨#[]⟩, .int .i64 0, .string ⟨#[]⟩, .string ⟨#[]⟩, .string ⟨#[]⟩, .int .i64 1, .string ⟨#[]⟩, .int .i64 2, .slice none 0 0, .int .i64 1, .slice (some ⟨w.heap.size + 1, 0, none⟩) 1 1] 42)).alloc (.cells #[.string ⟨#[97]⟩, .slice none 0 0, .slice (some ⟨w.heap.size + 1 + 1, 0, none⟩) 2 2] 25)) = w4 at *
  obtain ⟨P, hP⟩ : ∃ P, (awP (w.heap.size + 1) (w.heap.size + 1 + 1)) = P := ⟨_, rfl⟩
  have hPv : P.val = .agg #[.string ⟨#[97]⟩, .slice none 0 0, .slice (some ⟨w.heap.size + 1 + 1, 0, none⟩) 2 2] := by rw [← hP]; rfl
  have hPk : P.key = awPK := by rw [← hP]; rfl
  have hPl : P.Lt := by rw [← hP]; exact awP_lt _ _
  rw [hP] at HOK
  generalize hgx : w.heap.size = gx at *
  generalize hgr : gx + 1 + 1 = gr at *
  generalize hgp : gr + 1 = gp at *
  have HGX := Lib.hid hgx
  have HGT := Lib.hid hgr
  clear hgx hgr hgp hP
  have HLT := Lib.hid hPl
  have HPK := Lib.hid hPk
  have CP := Lib.hid (c.put P w4 HOK.out HLT.out (in_of_lt HLT.out) HT.out HN.out)
  rw [hPv] at CP
  have x0 := HP.out.c0
  have x1 := HP.out.c1
  have x2 := HP.out.c2
  go_wp2_with fail
  refine CP.out.mono ?_
  rintro e w5 ⟨s, er, rfl, hse, hb⟩
  obtain ⟨hs, rfl⟩ := hse.out.1 (by rw [HPK.out]; exact awP_ok)
  have HS : Hid (toB (putP awPK) = s) := by show _ = _; rw [hs, HPK.out]
  replace HB := Lib.hid (HB.out.trans (hb.mono (by have h := HB.out.size; rw [HGX.out] at h; exact h)))
  replace HP := Lib.hid (HP.out.on hb)
  replace HOK := Lib.hid (HOK.out.on hb)
  replace HT := Lib.hid (Tabs.on HT.out hb)
  replace HN := Lib.hid (HN.out.on hb)
  clear hse hs hb CP x0 x1 x2
  have hsz : s.size ≤ 500000 := by rw [← HS.out, toB_size]; exact awP_bytes
  have CG := Lib.hid (c.get s w5 hsz HT.out HN.out)
  go_wp2_with fail
  refine CG.out.mono ?_
  rintro e w6 ⟨z, er, rfl, hgot, hzok, hb⟩
  have hgot := hgot.out
  rw [← HS.out] at hgot
  have her : er = 0 := Decidable.byContradiction fun hne => (hgot.2 hne).2 awPK (by decide) awP_ok rfl
  subst her
  obtain ⟨hz1, hz2⟩ := hgot.1 rfl
  have hzk : z.key = awPK := by
    refine putP_inj hz1 awP_ok ?_ (by decide) ?_
    · have h1 := deps_le z.key
      have h2 : (putP z.key).length = (putP awPK).length := by rw [← toB_size, hz2, toB_size]
      have h3 := awP_bytes
      omega
    · have h3 := congrArg (fun b : ByteArray => b.data.toList) hz2
      simpa [toB_list] using h3
  have HZK := Lib.hid hzk
  have hbz := pat_box w6 z
  have hb6 := hb.trans (hbz.1.mono hb.size)
  have HZ := Lib.hid hbz.2
  have HZO := Lib.hid (hzok.on hbz.1)
  replace HB := Lib.hid (HB.out.trans (hb6.mono (by have h := HB.out.size; rw [HGX.out] at h; exact h)))
  replace HP := Lib.hid (HP.out.on hb6)
  replace HOK := Lib.hid (HOK.out.on hb6)
  unfold Ptm.val Ptm.cells
  have HTW := Lib.hid (Tabs.on HT.out hb6)
  have HNW := Lib.hid (HN.out.on hb6)
  clear hgot hz1 hz2 hzk hzok hb hbz hb6 CG HT HN hsz
  go_upto_region 5 with (fail)
  generalize (w6.alloc (.cells #[.string z.name, .slice z.a1 z.deps.length z.c1, .slice z.a2 z.ops.length z.c2] 25)) = w7 at *
  generalize hgz : w6.heap.size = gz at *
  clear hgz
  have HZL := Lib.hid (lt_of_key HLT.out (HZK.out.trans HPK.out.symm))
  have HDR : Hid (Below w7.heap.size w7 w7.drew) := (Below.refl _ _).drew
  have C9 : Hid (∀ W, Below w7.heap.size w7 W → Calls Tryz.prog 11 #[.agg #[.string ⟨#[97]⟩, .slice none 0 0, .slice (some ⟨gr, 0, none⟩) 2 2], .agg #[.string z.name, .slice z.a1 z.deps.length z.c1, .slice z.a2 z.ops.length z.c2]] W fun e w' => e = .returned (.bool true) ∧ Below W.heap.size W w') := fun W hW => by
    have h := c.same P z W (HOK.out.on hW) (HZO.out.on hW) HLT.out HZL.out (in_of_lt HLT.out) (in_of_lt HZL.out)
    rw [hPv, decide_eq_true (HPK.out.trans HZK.out.symm)] at h
    exact h
  have hn1 : P.name.data.toList = awPK.name := congrArg PatK.name HPK.out
  have hn2 : okeys P.ops = awPK.ops := congrArg PatK.ops HPK.out
  have C13 : Hid (∀ W, Below w7.heap.size w7 W → Calls Tryz.prog 18 #[.agg #[.string ⟨#[97]⟩, .slice none 0 0, .slice (some ⟨gr, 0, none⟩) 2 2]] W (IdsLeft W (madeP awPK.name awPK.ops))) := fun W hW => by
    have h := c.made P W (HOK.out.on hW) HLT.out (in_of_lt HLT.out) (fun o ho => by
      have h2 : o.key ∈ awPK.ops := by rw [← hn2]; exact List.mem_map.2 ⟨o, ho, rfl⟩
      have h3 : ∀ k ∈ awPK.ops, k.first ≤ 1099511627776 := by decide
      exact h3 _ h2)
    rw [hPv, hn1, hn2] at h
    exact h
  have C19 : Hid (∀ W, Below w7.heap.size w7 W → Calls Tryz.prog 20 #[.agg #[.string ⟨#[97]⟩, .slice none 0 0, .slice (some ⟨gr, 0, none⟩) 2 2]] W (IdsLeft W (namedP awPK))) := fun W hW => by
    have h := c.named P W (HOK.out.on hW) HLT.out (in_of_lt HLT.out)
    rw [hPv, HPK.out] at h
    exact h
  have C25 : Hid (∀ W, Below w7.heap.size w7 W → Calls Tryz.prog 10 #[.agg #[.string ⟨#[65]⟩, .slice none 0 0, .slice none 0 0]] W fun e w' => e = .returned (.int .i64 7) ∧ Below W.heap.size W w') := fun W hW => by
    have h := c.check badT W (badT_ok _ _) badT_lt (in_of_lt badT_lt) (Tabs.on HTW.out hW) (HNW.out.on hW)
    rw [badT_check] at h
    exact h
  have C30 : Hid (∀ W, Below w7.heap.size w7 W → Calls Tryz.prog 13 #[.agg #[.string ⟨#[97]⟩, .slice none 0 0, .slice (some ⟨gr, 0, none⟩) 2 2]] W fun e w' => ∃ z : Ptm, e = .returned z.val ∧ Hid (z.key = awPK) ∧ z.Ok w' w'.heap.size ∧ Hid (OpsFew z.ops) ∧ Below W.heap.size W w') := fun W hW => by
    have h := c.copy P W (HOK.out.on hW) HLT.out (in_of_lt HLT.out)
    rw [hPv, HPK.out] at h
    exact h
  have C32 : ∀ (y : Ptm) (v : World), y.Ok v v.heap.size → P.Ok v v.heap.size → y.key = awPK → Calls Tryz.prog 11 #[y.val, .agg #[.string ⟨#[97]⟩, .slice none 0 0, .slice (some ⟨gr, 0, none⟩) 2 2]] v fun e w' => e = .returned (.bool true) ∧ Below v.heap.size v w' := fun y v hy hp hk => by
    have hyl := lt_of_key HLT.out (hk.trans HPK.out.symm)
    have h := c.same y P v hy hp hyl HLT.out (in_of_lt hyl) (in_of_lt HLT.out)
    rw [hPv, decide_eq_true (hk.trans HPK.out.symm)] at h
    exact h
  clear hn1 hn2 HS HPK HZK HZO HZL
  refine wp_region_noPanic ?_
  refine wp_region_held_drew (S := fun W => Below w7.heap.size w7 W) (by kernel_rfl) HDR.out (fun hHeld => ?_)
  refine wpAnyH_take (i := 0) (oi := { dst := some 27, op := _, type := _, pos := _, after := _, guard := _ }) (v := .int .i64 0) rfl (by kernel_rfl) (by kernel_rfl) (by kernel_rfl) (fun _ _ _ h => h) (Or.inl ⟨by rfl, fun w' hSw => ?_⟩) (by assumption) ?_
  · dsimp only at hSw
    have x0 := (HP.out.on hSw).c0
    have x1 := (HP.out.on hSw).c1
    have x2 := (HP.out.on hSw).c2
    have z0 := (HZ.out.on hSw).c0
    have z1 := (HZ.out.on hSw).c1
    have z2 := (HZ.out.on hSw).c2
    go_simp
  try simp only [Act.put, List.setIfInBounds_toArray, List.set_cons_zero, List.set_cons_succ]
  refine wpAnyH_take (i := 1) (oi := { dst := some 28, op := _, type := _, pos := _, after := _, guard := _ }) (v := .bool true) rfl (by kernel_rfl) (by kernel_rfl) (by kernel_rfl) (fun _ _ _ h => h) (Or.inl ⟨by rfl, fun w' hSw => ?_⟩) (by assumption) ?_
  · dsimp only at hSw
    have x0 := (HP.out.on hSw).c0
    have x1 := (HP.out.on hSw).c1
    have x2 := (HP.out.on hSw).c2
    have z0 := (HZ.out.on hSw).c0
    have z1 := (HZ.out.on hSw).c1
    have z2 := (HZ.out.on hSw).c2
    go_simp
  try simp only [Act.put, List.setIfInBounds_toArray, List.set_cons_zero, List.set_cons_succ]
  refine wpAnyH_take (i := 2) (oi := { dst := some 29, op := _, type := _, pos := _, after := _, guard := _ }) (v := .bool true) rfl (by kernel_rfl) (by kernel_rfl) (by kernel_rfl) (fun _ _ _ h => h) (Or.inl ⟨by rfl, fun w' hSw => ?_⟩) (by assumption) ?_
  · dsimp only at hSw
    have x0 := (HP.out.on hSw).c0
    have x1 := (HP.out.on hSw).c1
    have x2 := (HP.out.on hSw).c2
    have z0 := (HZ.out.on hSw).c0
    have z1 := (HZ.out.on hSw).c1
    have z2 := (HZ.out.on hSw).c2
    go_simp
  try simp only [Act.put, List.setIfInBounds_toArray, List.set_cons_zero, List.set_cons_succ]
  refine wpAnyH_take (i := 3) (oi := { dst := some 30, op := _, type := _, pos := _, after := _, guard := _ }) (v := .int .i64 0) rfl (by kernel_rfl) (by kernel_rfl) (by kernel_rfl) (fun _ _ _ h => h) (Or.inl ⟨by rfl, fun w' hSw => ?_⟩) (by assumption) ?_
  · dsimp only at hSw
    have x0 := (HP.out.on hSw).c0
    have x1 := (HP.out.on hSw).c1
    have x2 := (HP.out.on hSw).c2
    have z0 := (HZ.out.on hSw).c0
    have z1 := (HZ.out.on hSw).c1
    have z2 := (HZ.out.on hSw).c2
    go_simp
  try simp only [Act.put, List.setIfInBounds_toArray, List.set_cons_zero, List.set_cons_succ]
  refine wpAnyH_take (i := 4) (oi := { dst := some 31, op := _, type := _, pos := _, after := _, guard := _ }) (v := .bool true) rfl (by kernel_rfl) (by kernel_rfl) (by kernel_rfl) (fun _ _ _ h => h) (Or.inl ⟨by rfl, fun w' hSw => ?_⟩) (by assumption) ?_
  · dsimp only at hSw
    have x0 := (HP.out.on hSw).c0
    have x1 := (HP.out.on hSw).c1
    have x2 := (HP.out.on hSw).c2
    have z0 := (HZ.out.on hSw).c0
    have z1 := (HZ.out.on hSw).c1
    have z2 := (HZ.out.on hSw).c2
    go_simp
  try simp only [Act.put, List.setIfInBounds_toArray, List.set_cons_zero, List.set_cons_succ]
  refine wpAnyH_take (i := 5) (oi := { dst := some 32, op := _, type := _, pos := _, after := _, guard := _ }) (v := .bool true) rfl (by kernel_rfl) (by kernel_rfl) (by kernel_rfl) (fun _ _ _ h => h) (Or.inl ⟨by rfl, fun w' hSw => ?_⟩) (by assumption) ?_
  · dsimp only at hSw
    have x0 := (HP.out.on hSw).c0
    have x1 := (HP.out.on hSw).c1
    have x2 := (HP.out.on hSw).c2
    have z0 := (HZ.out.on hSw).c0
    have z1 := (HZ.out.on hSw).c1
    have z2 := (HZ.out.on hSw).c2
    go_simp
  try simp only [Act.put, List.setIfInBounds_toArray, List.set_cons_zero, List.set_cons_succ]
  refine wpAnyH_take (i := 6) (oi := { dst := some 33, op := _, type := _, pos := _, after := _, guard := _ }) (v := .bool true) rfl (by kernel_rfl) (by kernel_rfl) (by kernel_rfl) (fun _ _ _ h => h) (Or.inl ⟨by rfl, fun w' hSw => ?_⟩) (by assumption) ?_
  · dsimp only at hSw
    have x0 := (HP.out.on hSw).c0
    have x1 := (HP.out.on hSw).c1
    have x2 := (HP.out.on hSw).c2
    have z0 := (HZ.out.on hSw).c0
    have z1 := (HZ.out.on hSw).c1
    have z2 := (HZ.out.on hSw).c2
    go_simp
  try simp only [Act.put, List.setIfInBounds_toArray, List.set_cons_zero, List.set_cons_succ]
  refine wpAnyH_take (i := 7) (oi := { dst := some 34, op := _, type := _, pos := _, after := _, guard := _ }) (v := .agg #[.string ⟨#[97]⟩, .slice none 0 0, .slice (some ⟨gr, 0, none⟩) 2 2]) rfl (by kernel_rfl) (by kernel_rfl) (by kernel_rfl) (fun _ _ _ h => h) (Or.inl ⟨by rfl, fun w' hSw => ?_⟩) (by assumption) ?_
  · dsimp only at hSw
    have x0 := (HP.out.on hSw).c0
    have x1 := (HP.out.on hSw).c1
    have x2 := (HP.out.on hSw).c2
    have z0 := (HZ.out.on hSw).c0
    have z1 := (HZ.out.on hSw).c1
    have z2 := (HZ.out.on hSw).c2
    go_simp
  try simp only [Act.put, List.setIfInBounds_toArray, List.set_cons_zero, List.set_cons_succ]
  refine wpAnyH_take (i := 8) (oi := { dst := some 35, op := _, type := _, pos := _, after := _, guard := _ }) (v := .agg #[.string z.name, .slice z.a1 z.deps.length z.c1, .slice z.a2 z.ops.length z.c2]) rfl (by kernel_rfl) (by kernel_rfl) (by kernel_rfl) (fun _ _ _ h => h) (Or.inl ⟨by rfl, fun w' hSw => ?_⟩) (by assumption) ?_
  · dsimp only at hSw
    have x0 := (HP.out.on hSw).c0
    have x1 := (HP.out.on hSw).c1
    have x2 := (HP.out.on hSw).c2
    have z0 := (HZ.out.on hSw).c0
    have z1 := (HZ.out.on hSw).c1
    have z2 := (HZ.out.on hSw).c2
    go_simp
  try simp only [Act.put, List.setIfInBounds_toArray, List.set_cons_zero, List.set_cons_succ]
  have XD := Lib.hid HDR.out
  generalize hwD : w7.drew = wD at *
  clear hwD HDR
  refine wpAnyH_ready (rs := [9]) (by kernel_rfl) (by simp) ?_
  refine AllReadyH.cons rfl (fun K hK => ?_) AllReadyH.nil
  go_simp
  go_at_call 11
  refine (C9.out _ XD.out).mono ?_
  rintro e v9 ⟨rfl, hb⟩
  have X9 := Lib.hid (XD.out.trans (hb.mono XD.out.size))
  clear hb
  refine hK.out _ _ X9.out (fun hHeld9 => ?_)
  clear hK K hHeld
  try simp only [Act.put, List.setIfInBounds_toArray, List.set_cons_zero, List.set_cons_succ]
  refine wpAnyH_take (i := 10) (oi := { dst := some 37, op := _, type := _, pos := _, after := _, guard := _ }) (v := .bool true) rfl (by kernel_rfl) (by kernel_rfl) (by kernel_rfl) (fun _ _ _ h => h) (Or.inl ⟨by rfl, fun w' hSw => ?_⟩) (by assumption) ?_
  · dsimp only at hSw
    have x0 := (HP.out.on hSw).c0
    have x1 := (HP.out.on hSw).c1
    have x2 := (HP.out.on hSw).c2
    have z0 := (HZ.out.on hSw).c0
    have z1 := (HZ.out.on hSw).c1
    have z2 := (HZ.out.on hSw).c2
    go_simp
  try simp only [Act.put, List.setIfInBounds_toArray, List.set_cons_zero, List.set_cons_succ]
  refine wpAnyH_take (i := 11) (oi := { dst := some 38, op := _, type := _, pos := _, after := _, guard := _ }) (v := .bool true) rfl (by kernel_rfl) (by kernel_rfl) (by kernel_rfl) (fun _ _ _ h => h) (Or.inl ⟨by rfl, fun w' hSw => ?_⟩) (by assumption) ?_
  · dsimp only at hSw
    have x0 := (HP.out.on hSw).c0
    have x1 := (HP.out.on hSw).c1
    have x2 := (HP.out.on hSw).c2
    have z0 := (HZ.out.on hSw).c0
    have z1 := (HZ.out.on hSw).c1
    have z2 := (HZ.out.on hSw).c2
    go_simp
  try simp only [Act.put, List.setIfInBounds_toArray, List.set_cons_zero, List.set_cons_succ]
  refine wpAnyH_take (i := 12) (oi := { dst := some 39, op := _, type := _, pos := _, after := _, guard := _ }) (v := .agg #[.string ⟨#[97]⟩, .slice none 0 0, .slice (some ⟨gr, 0, none⟩) 2 2]) rfl (by kernel_rfl) (by kernel_rfl) (by kernel_rfl) (fun _ _ _ h => h) (Or.inl ⟨by rfl, fun w' hSw => ?_⟩) (by assumption) ?_
  · dsimp only at hSw
    have x0 := (HP.out.on hSw).c0
    have x1 := (HP.out.on hSw).c1
    have x2 := (HP.out.on hSw).c2
    have z0 := (HZ.out.on hSw).c0
    have z1 := (HZ.out.on hSw).c1
    have z2 := (HZ.out.on hSw).c2
    go_simp
  try simp only [Act.put, List.setIfInBounds_toArray, List.set_cons_zero, List.set_cons_succ]
  refine wpAnyH_ready (rs := [13]) (by kernel_rfl) (by simp) ?_
  refine AllReadyH.cons rfl (fun K hK => ?_) AllReadyH.nil
  go_simp
  go_at_call 18
  refine (C13.out _ X9.out).mono ?_
  rintro e v13 ⟨A1, n1, c1, l1, rfl, hk1, ho1, hb⟩
  have X13 := Lib.hid (X9.out.trans (hb.mono X9.out.size))
  have hn1 : n1 = 2 := by rw [ho1.parts.1, ← ikeys_len, hk1]; decide
  subst hn1
  clear hk1 ho1
  clear hb
  refine hK.out _ _ X13.out (fun hHeld13 => ?_)
  clear hK K hHeld9
  try simp only [Act.put, List.setIfInBounds_toArray, List.set_cons_zero, List.set_cons_succ]
  refine wpAnyH_take (i := 14) (oi := { dst := some 41, op := _, type := _, pos := _, after := _, guard := _ }) (v := .int .i64 2) rfl (by kernel_rfl) (by kernel_rfl) (by kernel_rfl) (fun _ _ _ h => h) (Or.inl ⟨by rfl, fun w' hSw => ?_⟩) (by assumption) ?_
  · dsimp only at hSw
    have x0 := (HP.out.on hSw).c0
    have x1 := (HP.out.on hSw).c1
    have x2 := (HP.out.on hSw).c2
    have z0 := (HZ.out.on hSw).c0
    have z1 := (HZ.out.on hSw).c1
    have z2 := (HZ.out.on hSw).c2
    go_simp
  try simp only [Act.put, List.setIfInBounds_toArray, List.set_cons_zero, List.set_cons_succ]
  refine wpAnyH_take (i := 15) (oi := { dst := some 42, op := _, type := _, pos := _, after := _, guard := _ }) (v := .bool true) rfl (by kernel_rfl) (by kernel_rfl) (by kernel_rfl) (fun _ _ _ h => h) (Or.inl ⟨by rfl, fun w' hSw => ?_⟩) (by assumption) ?_
  · dsimp only at hSw
    have x0 := (HP.out.on hSw).c0
    have x1 := (HP.out.on hSw).c1
    have x2 := (HP.out.on hSw).c2
    have z0 := (HZ.out.on hSw).c0
    have z1 := (HZ.out.on hSw).c1
    have z2 := (HZ.out.on hSw).c2
    go_simp
  try simp only [Act.put, List.setIfInBounds_toArray, List.set_cons_zero, List.set_cons_succ]
  refine wpAnyH_take (i := 16) (oi := { dst := some 43, op := _, type := _, pos := _, after := _, guard := _ }) (v := .bool true) rfl (by kernel_rfl) (by kernel_rfl) (by kernel_rfl) (fun _ _ _ h => h) (Or.inl ⟨by rfl, fun w' hSw => ?_⟩) (by assumption) ?_
  · dsimp only at hSw
    have x0 := (HP.out.on hSw).c0
    have x1 := (HP.out.on hSw).c1
    have x2 := (HP.out.on hSw).c2
    have z0 := (HZ.out.on hSw).c0
    have z1 := (HZ.out.on hSw).c1
    have z2 := (HZ.out.on hSw).c2
    go_simp
  try simp only [Act.put, List.setIfInBounds_toArray, List.set_cons_zero, List.set_cons_succ]
  refine wpAnyH_take (i := 17) (oi := { dst := some 44, op := _, type := _, pos := _, after := _, guard := _ }) (v := .bool true) rfl (by kernel_rfl) (by kernel_rfl) (by kernel_rfl) (fun _ _ _ h => h) (Or.inl ⟨by rfl, fun w' hSw => ?_⟩) (by assumption) ?_
  · dsimp only at hSw
    have x0 := (HP.out.on hSw).c0
    have x1 := (HP.out.on hSw).c1
    have x2 := (HP.out.on hSw).c2
    have z0 := (HZ.out.on hSw).c0
    have z1 := (HZ.out.on hSw).c1
    have z2 := (HZ.out.on hSw).c2
    go_simp
  try simp only [Act.put, List.setIfInBounds_toArray, List.set_cons_zero, List.set_cons_succ]
  refine wpAnyH_take (i := 18) (oi := { dst := some 45, op := _, type := _, pos := _, after := _, guard := _ }) (v := .agg #[.string ⟨#[97]⟩, .slice none 0 0, .slice (some ⟨gr, 0, none⟩) 2 2]) rfl (by kernel_rfl) (by kernel_rfl) (by kernel_rfl) (fun _ _ _ h => h) (Or.inl ⟨by rfl, fun w' hSw => ?_⟩) (by assumption) ?_
  · dsimp only at hSw
    have x0 := (HP.out.on hSw).c0
    have x1 := (HP.out.on hSw).c1
    have x2 := (HP.out.on hSw).c2
    have z0 := (HZ.out.on hSw).c0
    have z1 := (HZ.out.on hSw).c1
    have z2 := (HZ.out.on hSw).c2
    go_simp
  try simp only [Act.put, List.setIfInBounds_toArray, List.set_cons_zero, List.set_cons_succ]
  refine wpAnyH_ready (rs := [19]) (by kernel_rfl) (by simp) ?_
  refine AllReadyH.cons rfl (fun K hK => ?_) AllReadyH.nil
  go_simp
  go_at_call 20
  refine (C19.out _ X13.out).mono ?_
  rintro e v19 ⟨A2, n2, c2, l2, rfl, hk2, ho2, hb⟩
  have X19 := Lib.hid (X13.out.trans (hb.mono X13.out.size))
  have hn2 : n2 = 0 := by rw [ho2.parts.1, ← ikeys_len, hk2]; decide
  subst hn2
  clear hk2 ho2
  clear hb
  refine hK.out _ _ X19.out (fun hHeld19 => ?_)
  clear hK K hHeld13
  try simp only [Act.put, List.setIfInBounds_toArray, List.set_cons_zero, List.set_cons_succ]
  refine wpAnyH_take (i := 20) (oi := { dst := some 47, op := _, type := _, pos := _, after := _, guard := _ }) (v := .int .i64 0) rfl (by kernel_rfl) (by kernel_rfl) (by kernel_rfl) (fun _ _ _ h => h) (Or.inl ⟨by rfl, fun w' hSw => ?_⟩) (by assumption) ?_
  · dsimp only at hSw
    have x0 := (HP.out.on hSw).c0
    have x1 := (HP.out.on hSw).c1
    have x2 := (HP.out.on hSw).c2
    have z0 := (HZ.out.on hSw).c0
    have z1 := (HZ.out.on hSw).c1
    have z2 := (HZ.out.on hSw).c2
    go_simp
  try simp only [Act.put, List.setIfInBounds_toArray, List.set_cons_zero, List.set_cons_succ]
  refine wpAnyH_take (i := 21) (oi := { dst := some 48, op := _, type := _, pos := _, after := _, guard := _ }) (v := .bool true) rfl (by kernel_rfl) (by kernel_rfl) (by kernel_rfl) (fun _ _ _ h => h) (Or.inl ⟨by rfl, fun w' hSw => ?_⟩) (by assumption) ?_
  · dsimp only at hSw
    have x0 := (HP.out.on hSw).c0
    have x1 := (HP.out.on hSw).c1
    have x2 := (HP.out.on hSw).c2
    have z0 := (HZ.out.on hSw).c0
    have z1 := (HZ.out.on hSw).c1
    have z2 := (HZ.out.on hSw).c2
    go_simp
  try simp only [Act.put, List.setIfInBounds_toArray, List.set_cons_zero, List.set_cons_succ]
  refine wpAnyH_take (i := 22) (oi := { dst := some 49, op := _, type := _, pos := _, after := _, guard := _ }) (v := .bool true) rfl (by kernel_rfl) (by kernel_rfl) (by kernel_rfl) (fun _ _ _ h => h) (Or.inl ⟨by rfl, fun w' hSw => ?_⟩) (by assumption) ?_
  · dsimp only at hSw
    have x0 := (HP.out.on hSw).c0
    have x1 := (HP.out.on hSw).c1
    have x2 := (HP.out.on hSw).c2
    have z0 := (HZ.out.on hSw).c0
    have z1 := (HZ.out.on hSw).c1
    have z2 := (HZ.out.on hSw).c2
    go_simp
  try simp only [Act.put, List.setIfInBounds_toArray, List.set_cons_zero, List.set_cons_succ]
  refine wpAnyH_take (i := 23) (oi := { dst := some 50, op := _, type := _, pos := _, after := _, guard := _ }) (v := .bool true) rfl (by kernel_rfl) (by kernel_rfl) (by kernel_rfl) (fun _ _ _ h => h) (Or.inl ⟨by rfl, fun w' hSw => ?_⟩) (by assumption) ?_
  · dsimp only at hSw
    have x0 := (HP.out.on hSw).c0
    have x1 := (HP.out.on hSw).c1
    have x2 := (HP.out.on hSw).c2
    have z0 := (HZ.out.on hSw).c0
    have z1 := (HZ.out.on hSw).c1
    have z2 := (HZ.out.on hSw).c2
    go_simp
  try simp only [Act.put, List.setIfInBounds_toArray, List.set_cons_zero, List.set_cons_succ]
  refine wpAnyH_take (i := 24) (oi := { dst := some 51, op := _, type := _, pos := _, after := _, guard := _ }) (v := .agg #[.string ⟨#[65]⟩, .slice none 0 0, .slice none 0 0]) rfl (by kernel_rfl) (by kernel_rfl) (by kernel_rfl) (fun _ _ _ h => h) (Or.inl ⟨by rfl, fun w' hSw => ?_⟩) (by assumption) ?_
  · dsimp only at hSw
    have x0 := (HP.out.on hSw).c0
    have x1 := (HP.out.on hSw).c1
    have x2 := (HP.out.on hSw).c2
    have z0 := (HZ.out.on hSw).c0
    have z1 := (HZ.out.on hSw).c1
    have z2 := (HZ.out.on hSw).c2
    go_simp
  try simp only [Act.put, List.setIfInBounds_toArray, List.set_cons_zero, List.set_cons_succ]
  refine wpAnyH_ready (rs := [25]) (by kernel_rfl) (by simp) ?_
  refine AllReadyH.cons rfl (fun K hK => ?_) AllReadyH.nil
  go_simp
  go_at_call 10
  refine (C25.out _ X19.out).mono ?_
  rintro e v25 ⟨rfl, hb⟩
  have X25 := Lib.hid (X19.out.trans (hb.mono X19.out.size))
  clear hb
  refine hK.out _ _ X25.out (fun hHeld25 => ?_)
  clear hK K hHeld19
  try simp only [Act.put, List.setIfInBounds_toArray, List.set_cons_zero, List.set_cons_succ]
  refine wpAnyH_take (i := 26) (oi := { dst := some 53, op := _, type := _, pos := _, after := _, guard := _ }) (v := .bool true) rfl (by kernel_rfl) (by kernel_rfl) (by kernel_rfl) (fun _ _ _ h => h) (Or.inl ⟨by rfl, fun w' hSw => ?_⟩) (by assumption) ?_
  · dsimp only at hSw
    have x0 := (HP.out.on hSw).c0
    have x1 := (HP.out.on hSw).c1
    have x2 := (HP.out.on hSw).c2
    have z0 := (HZ.out.on hSw).c0
    have z1 := (HZ.out.on hSw).c1
    have z2 := (HZ.out.on hSw).c2
    go_simp
  try simp only [Act.put, List.setIfInBounds_toArray, List.set_cons_zero, List.set_cons_succ]
  refine wpAnyH_take (i := 27) (oi := { dst := some 54, op := _, type := _, pos := _, after := _, guard := _ }) (v := .bool true) rfl (by kernel_rfl) (by kernel_rfl) (by kernel_rfl) (fun _ _ _ h => h) (Or.inl ⟨by rfl, fun w' hSw => ?_⟩) (by assumption) ?_
  · dsimp only at hSw
    have x0 := (HP.out.on hSw).c0
    have x1 := (HP.out.on hSw).c1
    have x2 := (HP.out.on hSw).c2
    have z0 := (HZ.out.on hSw).c0
    have z1 := (HZ.out.on hSw).c1
    have z2 := (HZ.out.on hSw).c2
    go_simp
  try simp only [Act.put, List.setIfInBounds_toArray, List.set_cons_zero, List.set_cons_succ]
  refine wpAnyH_take (i := 28) (oi := { dst := some 55, op := _, type := _, pos := _, after := _, guard := _ }) (v := .bool true) rfl (by kernel_rfl) (by kernel_rfl) (by kernel_rfl) (fun _ _ _ h => h) (Or.inl ⟨by rfl, fun w' hSw => ?_⟩) (by assumption) ?_
  · dsimp only at hSw
    have x0 := (HP.out.on hSw).c0
    have x1 := (HP.out.on hSw).c1
    have x2 := (HP.out.on hSw).c2
    have z0 := (HZ.out.on hSw).c0
    have z1 := (HZ.out.on hSw).c1
    have z2 := (HZ.out.on hSw).c2
    go_simp
  try simp only [Act.put, List.setIfInBounds_toArray, List.set_cons_zero, List.set_cons_succ]
  refine wpAnyH_take (i := 29) (oi := { dst := some 56, op := _, type := _, pos := _, after := _, guard := _ }) (v := .agg #[.string ⟨#[97]⟩, .slice none 0 0, .slice (some ⟨gr, 0, none⟩) 2 2]) rfl (by kernel_rfl) (by kernel_rfl) (by kernel_rfl) (fun _ _ _ h => h) (Or.inl ⟨by rfl, fun w' hSw => ?_⟩) (by assumption) ?_
  · dsimp only at hSw
    have x0 := (HP.out.on hSw).c0
    have x1 := (HP.out.on hSw).c1
    have x2 := (HP.out.on hSw).c2
    have z0 := (HZ.out.on hSw).c0
    have z1 := (HZ.out.on hSw).c1
    have z2 := (HZ.out.on hSw).c2
    go_simp
  try simp only [Act.put, List.setIfInBounds_toArray, List.set_cons_zero, List.set_cons_succ]
  refine wpAnyH_take (i := 31) (oi := { dst := some 58, op := _, type := _, pos := _, after := _, guard := _ }) (v := .agg #[.string ⟨#[97]⟩, .slice none 0 0, .slice (some ⟨gr, 0, none⟩) 2 2]) rfl (by kernel_rfl) (by kernel_rfl) (by kernel_rfl) (fun _ _ _ h => h) (Or.inl ⟨by rfl, fun w' hSw => ?_⟩) (by assumption) ?_
  · dsimp only at hSw
    have x0 := (HP.out.on hSw).c0
    have x1 := (HP.out.on hSw).c1
    have x2 := (HP.out.on hSw).c2
    have z0 := (HZ.out.on hSw).c0
    have z1 := (HZ.out.on hSw).c1
    have z2 := (HZ.out.on hSw).c2
    go_simp
  try simp only [Act.put, List.setIfInBounds_toArray, List.set_cons_zero, List.set_cons_succ]
  refine wpAnyH_ready (rs := [30]) (by kernel_rfl) (by simp) ?_
  refine AllReadyH.cons rfl (fun K hK => ?_) AllReadyH.nil
  go_simp
  go_at_call 13
  refine (C30.out _ X25.out).mono ?_
  rintro e v30 ⟨y, rfl, hyk, hyo, -, hb⟩
  have X30 := Lib.hid (X25.out.trans (hb.mono X25.out.size))
  have HYO := Lib.hid hyo
  have HYK := Lib.hid hyk.out
  clear hyk hyo
  clear hb
  refine hK.out _ _ X30.out (fun hHeld30 => ?_)
  clear hK K hHeld25
  try simp only [Act.put, List.setIfInBounds_toArray, List.set_cons_zero, List.set_cons_succ]
  refine wpAnyH_ready (rs := [32]) (by kernel_rfl) (by simp) ?_
  refine AllReadyH.cons rfl (fun K hK => ?_) AllReadyH.nil
  go_simp
  go_at_call 11
  refine (C32 y v30 HYO.out (HOK.out.on X30.out) HYK.out).mono ?_
  rintro e v32 ⟨rfl, hb⟩
  have X32 := Lib.hid (X30.out.trans (hb.mono X30.out.size))
  clear hb
  refine hK.out _ _ X32.out (fun hHeld32 => ?_)
  clear hK K hHeld30
  try simp only [Act.put, List.setIfInBounds_toArray, List.set_cons_zero, List.set_cons_succ]
  refine wpAnyH_take (i := 33) (oi := { dst := some 60, op := _, type := _, pos := _, after := _, guard := _ }) (v := .bool true) rfl (by kernel_rfl) (by kernel_rfl) (by kernel_rfl) (fun _ _ _ h => h) (Or.inl ⟨by rfl, fun w' hSw => ?_⟩) (by assumption) ?_
  · dsimp only at hSw
    have x0 := (HP.out.on hSw).c0
    have x1 := (HP.out.on hSw).c1
    have x2 := (HP.out.on hSw).c2
    have z0 := (HZ.out.on hSw).c0
    have z1 := (HZ.out.on hSw).c1
    have z2 := (HZ.out.on hSw).c2
    go_simp
  try simp only [Act.put, List.setIfInBounds_toArray, List.set_cons_zero, List.set_cons_succ]
  refine wpAnyH_take (i := 34) (oi := { dst := some 0, op := _, type := _, pos := _, after := _, guard := _ }) (v := .bool true) rfl (by kernel_rfl) (by kernel_rfl) (by kernel_rfl) (fun _ _ _ h => h) (Or.inl ⟨by rfl, fun w' hSw => ?_⟩) (by assumption) ?_
  · dsimp only at hSw
    have x0 := (HP.out.on hSw).c0
    have x1 := (HP.out.on hSw).c1
    have x2 := (HP.out.on hSw).c2
    have z0 := (HZ.out.on hSw).c0
    have z1 := (HZ.out.on hSw).c1
    have z2 := (HZ.out.on hSw).c2
    go_simp
  try simp only [Act.put, List.setIfInBounds_toArray, List.set_cons_zero]
  refine wpAnyH_done (by kernel_rfl) ?_ _
  refine NoPanic.normal ?_
  have HF := Lib.hid (HB.out.trans (X32.out.mono (by have h := HB.out.size; rw [HGX.out] at h; exact h)))
  clear C9 C13 C19 C25 C30 HB
  go_wp2
  go_ret
  exact ⟨rfl, by rw [HGX.out]; exact HF.out⟩
end Go.Proofs.YtoajckhfnadhjaaGreatDoor
