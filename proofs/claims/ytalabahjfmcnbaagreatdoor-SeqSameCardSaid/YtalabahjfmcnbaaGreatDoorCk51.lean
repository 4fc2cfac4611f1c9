/- Package prim's Apply, All, over what package tree's calls do. -/
import Derived.BigQuiet
import Derived.Deep.QuietTactic
import Derived.Handy
import Derived.Deep.RegionLaw
import Derived.Test.YtalabahjfmcnbaaGreatDoorCk50
namespace Go.Proofs.YtalabahjfmcnbaaGreatDoor
open Go.RowKit
set_option linter.unusedVariables false

theorem ap_ch {ks : List PF} {p : Pk} (h : ckP p = 0) (h1 : p.kind ≠ 1) (h3 : p.kind ≠ 3) (h5 : p.kind ≠ 5) : apP ks p = chP ks p.kind p.at_ p.path p.old p.new := by
  obtain ⟨k1, k6, _, _, _, _, _⟩ := ck_facts h
  unfold apP chP
  rw [if_neg (by simpa using h), if_neg h1, if_neg h3, if_neg h5]
  cases ks.find? fun k => decide (k.1 = p.path) with
  | none => rfl
  | some f =>
    simp only [leftE, leftL]
    by_cases hd : f.2.1 = decide (p.kind = 2)
    · by_cases hk6 : p.kind = 6
      · by_cases ha : atB f.2.2 p.old p.at_ = true <;> simp [hk6, ha, hd]
      · by_cases hl : f.2.2 = [] <;> simp [hk6, hl, hd]
    · simp [hd]
theorem sort_foldl_len : ∀ (l out : List PF), (l.foldl insK out).length = out.length + l.length
  | [], out => rfl
  | x :: l, out => by
    rw [List.foldl_cons, sort_foldl_len l]
    unfold insK
    simp only [List.length_append, List.length_take, List.length_drop, List.length_cons, List.length_nil]
    omega
theorem withK_len (ks : List PF) (x : PF) : (withK ks x).length ≤ ks.length + 1 := by
  unfold withK sortK
  rw [sort_foldl_len]
  have : (withoutK ks x.1).length ≤ ks.length := List.length_filter_le _ _
  simp only [List.length_append, List.length_cons, List.length_nil]
  omega
theorem withoutK_len (ks : List PF) (p : List UInt8) : (withoutK ks p).length ≤ ks.length := List.length_filter_le _ _
theorem dok_len (ks : List PF) (kind : Int) (p q : List UInt8) (ls : List (List UInt8)) (ck : Int) : (doK ks kind p q ls ck).2.length ≤ ks.length + 1 := by
  have h1 := fun x => withK_len ks x
  have h2 := withoutK_len ks p
  have h3 := fun x => withK_len (withoutK ks p) x
  unfold doK
  repeat' split
  all_goals
    first
      | exact Nat.le_succ _
      | exact h1 _
      | exact Nat.le_succ_of_le h2
      | exact Nat.le_trans (h3 _) (by omega)
theorem ap_len (ks : List PF) (p : Pk) : (apP ks p).2.length ≤ ks.length + 1 := by
  unfold apP
  repeat' split
  all_goals
    first
      | exact dok_len _ _ _ _ _ _
      | simp
theorem may_ck {kind : Int} {p q : ByteArray} {at_ : Int} {a1 : Option Addr} {c1 : Nat} {old : List (List UInt8)} {a2 : Option Addr} {c2 : Nat} {new : List (List UInt8)} (h : ckP (Pm.key ⟨kind, p, q, at_, a1, c1, old, a2, c2, new⟩) = 0) (e : kind = 6) : mayB [⟨at_, a1, c1, old, a2, c2, new⟩] = true := by
  rw [ckP_by] at h
  simp only [] at h
  split at h
  · omega
  split at h
  · omega
  split at h
  · omega
  rename_i h3
  rw [mayB_one, decide_eq_true_eq]
  simp only [not_and] at h3
  have h4 := h3 e
  unfold linedB at h4
  rw [decide_eq_false_iff_not, Classical.not_not] at h4
  exact ⟨h4.1, h4.2.1⟩
set_option maxHeartbeats 8000000 in
set_option maxRecDepth 100000 in
theorem papply_m {Tr : World → Option Addr → Nat → Nat → List PF → Prop} (T : TreeC Tr) (B : Option Addr) (n c : Nat) (ks : List PF) (x : Pm) (er : Int) (res : List PF) (w : World) (h : Tr w B n c ks) (hk4 : ks.length ≤ 400) (hw : Well ks) (ok : x.Ok w w.heap.size) (hl : x.Mid) (hTb : Tabs w) (hd : apP ks x.key = (er, res)) :
    Calls Tryz.prog 35 #[.agg #[.slice B n c], x.val] w (TreeLeft Tr w er res) := by
  have CK0 := fun W (hb : Below w.heap.size w W) => pcheck_any x W (ok.on hb) (Nat.le_trans hl.p (by decide)) (Nat.le_trans hl.q (by decide)) (Nat.le_trans hl.old.1 (by decide)) (Nat.le_trans hl.new.1 (by decide)) (fun l h => Nat.le_trans (hl.old.2 l h) (by decide)) (fun l h => Nat.le_trans (hl.new.2 l h) (by decide)) (Tabs.on hTb hb)
  obtain ⟨kind, p, q, at_, a1, c1, old, a2, c2, new⟩ := x
  unfold Pm.val at CK0 ⊢
  simp only [] at CK0 ⊢
  have hal : Below w.heap.size w (((w.alloc (.cells #[.slice B n c] 43)).alloc (.cells #[.int .i64 kind, .string p, .string q, .int .i64 at_, .slice a1 old.length c1, .slice a2 new.length c2] 33)).alloc (.cells #[.slice none 0 0] 43)) := (((Below.refl _ _).alloc (Nat.le_refl _) _).alloc (by simp) _).alloc (by simp; omega) _
  have HTR := Lib.hid (T.on h hal)
  have hb1 : Below (w.alloc (.cells #[.slice B n c] 43)).heap.size (w.alloc (.cells #[.slice B n c] 43)) ((w.alloc (.cells #[.slice B n c] 43)).alloc (.cells #[.int .i64 kind, .string p, .string q, .int .i64 at_, .slice a1 old.length c1, .slice a2 new.length c2] 33)) := (Below.refl _ _).alloc (Nat.le_refl _) _
  have hb2 : Below ((w.alloc (.cells #[.slice B n c] 43)).alloc (.cells #[.int .i64 kind, .string p, .string q, .int .i64 at_, .slice a1 old.length c1, .slice a2 new.length c2] 33)).heap.size ((w.alloc (.cells #[.slice B n c] 43)).alloc (.cells #[.int .i64 kind, .string p, .string q, .int .i64 at_, .slice a1 old.length c1, .slice a2 new.length c2] 33)) (((w.alloc (.cells #[.slice B n c] 43)).alloc (.cells #[.int .i64 kind, .string p, .string q, .int .i64 at_, .slice a1 old.length c1, .slice a2 new.length c2] 33)).alloc (.cells #[.slice none 0 0] 43)) := (Below.refl _ _).alloc (Nat.le_refl _) _
  have HT : Hid (TAt (((w.alloc (.cells #[.slice B n c] 43)).alloc (.cells #[.int .i64 kind, .string p, .string q, .int .i64 at_, .slice a1 old.length c1, .slice a2 new.length c2] 33)).alloc (.cells #[.slice none 0 0] 43)) w.heap.size B n c) := ((TAt.new_ w B n c).on hb1).on hb2
  have HP : Hid (PAt (((w.alloc (.cells #[.slice B n c] 43)).alloc (.cells #[.int .i64 kind, .string p, .string q, .int .i64 at_, .slice a1 old.length c1, .slice a2 new.length c2] 33)).alloc (.cells #[.slice none 0 0] 43)) (w.heap.size + 1) kind p q at_ a1 old.length c1 a2 new.length c2) := by
    have h := PAt.new_ (w.alloc (.cells #[.slice B n c] 43)) kind p q at_ a1 old.length c1 a2 new.length c2
    rw [World.size_alloc] at h
    exact h.on hb2
  have HR : Hid (TAt (((w.alloc (.cells #[.slice B n c] 43)).alloc (.cells #[.int .i64 kind, .string p, .string q, .int .i64 at_, .slice a1 old.length c1, .slice a2 new.length c2] 33)).alloc (.cells #[.slice none 0 0] 43)) (w.heap.size + 2) none 0 0) := by
    have h := TAt.new_ ((w.alloc (.cells #[.slice B n c] 43)).alloc (.cells #[.int .i64 kind, .string p, .string q, .int .i64 at_, .slice a1 old.length c1, .slice a2 new.length c2] 33)) none 0 0
    rw [World.size_alloc, World.size_alloc] at h
    exact h
  have HTB := Lib.hid (Tabs.on hTb hal)
  have HA := Lib.hid hal
  have HO := Lib.hid (ok.on hal)
  have HL := Lib.hid hl
  have HW := Lib.hid hw
  have t0 := HT.out.c0
  have b0 := HP.out.k0
  have b1 := HP.out.k1
  have b2 := HP.out.k2
  have b3 := HP.out.k3
  have b4 := HP.out.k4
  have b5 := HP.out.k5
  clear hal h hTb ok hb1 hb2 hl hw
  have CK := Lib.hid (CK0 _ HA.out)
  obtain ⟨ck, hck⟩ : ∃ r, ckP (Pm.key ⟨kind, p, q, at_, a1, c1, old, a2, c2, new⟩) = r := ⟨_, rfl⟩
  rw [hck] at CK
  have HCK := Lib.hid hck
  have HD := Lib.hid hd
  clear CK0 hck hd
  go_enter Tryz.func35, Tryz.ntmps35
  go_wp2_with fail
  generalize (((w.alloc (.cells #[.slice B n c] 43)).alloc (.cells #[.int .i64 kind, .string p, .string q, .int .i64 at_, .slice a1 old.length c1, .slice a2 new.length c2] 33)).alloc (.cells #[.slice none 0 0] 43)) = wa at *
  refine CK.out.mono ?_
  rintro e w1 ⟨rfl, hb⟩
  have HB1 := Lib.hid hb
  clear hb CK
  clear t0 b0 b1 b2 b3 b4 b5
  have t0 := (HT.out.on HB1.out).c0
  have b0 := (HP.out.on HB1.out).k0
  have b1 := (HP.out.on HB1.out).k1
  have b2 := (HP.out.on HB1.out).k2
  have b3 := (HP.out.on HB1.out).k3
  have b4 := (HP.out.on HB1.out).k4
  have b5 := (HP.out.on HB1.out).k5
  by_cases hc0 : ck = 0
  · subst hc0
    have hf := ck_facts (p := ⟨kind, p.data.toList, q.data.toList, at_, old, new⟩) HCK.out
    simp only [] at hf
    obtain ⟨kk1, kk6, u1, u2, u3, u4, u5⟩ := hf
    clear u1 u2 u3 u4 u5
    have hk : kind = 1 ∨ kind = 3 ∨ kind = 5 ∨ kind = 2 ∨ kind = 4 ∨ kind = 6 := by omega
    clear kk1 kk6
    have hck0 : ckP ⟨kind, p.data.toList, q.data.toList, at_, old, new⟩ = 0 := HCK.out
    have hd0 : apP ks ⟨kind, p.data.toList, q.data.toList, at_, old, new⟩ = (er, res) := HD.out
    have HDC := Lib.hid (fun h1 h3 h5 => (ap_ch hck0 h1 h3 h5).symm.trans hd0)
    have hd := hd0
    unfold apP at hd
    rw [if_neg (by rw [hck0]; simp)] at hd
    simp only [] at hd
    clear hck0 hd0
    rcases hk with hk | hk | hk | hk | hk | hk
    · subst hk
      rw [if_pos rfl] at hd
      have CW := Lib.hid (T.mkdir B n c ks p er res w1 (T.on HTR.out HB1.out) hk4 (by have := HL.out.p; simp only [] at this; omega) hd)
      clear hd
      go_wp2_with fail
      refine CW.out.mono ?_
      rintro e w7 ⟨A5, n5, c5, rfl, ht, hb⟩
      have hR5 := (HR.out.on HB1.out).on hb
      have x0 := hR5.c0
      have x1 := hR5.fz 0
      have HF := Lib.hid (left_pass T (w := w) ht.out hR5 (HA.out.trans ((HB1.out.trans (hb.mono HB1.out.size)).mono HA.out.size)) (by omega))
      have HRS := Lib.hid (hR5.set A5 n5 c5)
      clear ht hb hR5
      go_wp2
      (try simp only [Exit.inBlock, Exit.then])
      refine bodyPost_ret (ret_tree2 rfl _ _ _ A5 n5 c5 _ rfl rfl HRS.out) rfl ?_
      exact HF.out
    · subst hk
      rw [if_neg (by decide), if_pos rfl] at hd
      have CW := Lib.hid (create_any T B n c ks p er res w1 (T.on HTR.out HB1.out) hk4 (by have := HL.out.p; simp only [] at this; omega) (Tabs.on HTB.out HB1.out) hd)
      clear hd
      go_wp2_with fail
      refine CW.out.mono ?_
      rintro e w7 ⟨A5, n5, c5, rfl, ht, hb⟩
      have hR5 := (HR.out.on HB1.out).on hb
      have x0 := hR5.c0
      have x1 := hR5.fz 0
      have HF := Lib.hid (left_pass T (w := w) ht.out hR5 (HA.out.trans ((HB1.out.trans (hb.mono HB1.out.size)).mono HA.out.size)) (by omega))
      have HRS := Lib.hid (hR5.set A5 n5 c5)
      clear ht hb hR5
      go_wp2
      (try simp only [Exit.inBlock, Exit.then])
      refine bodyPost_ret (ret_tree2 rfl _ _ _ A5 n5 c5 _ rfl rfl HRS.out) rfl ?_
      exact HF.out
    · subst hk
      rw [if_neg (by decide), if_neg (by decide), if_pos rfl] at hd
      have CW := Lib.hid (T.move B n c ks p q er res w1 (T.on HTR.out HB1.out) hk4 (by have := HL.out.p; simp only [] at this; omega) (by have := HL.out.q; simp only [] at this; omega) hd)
      clear hd
      go_wp2_with fail
      refine CW.out.mono ?_
      rintro e w7 ⟨A5, n5, c5, rfl, ht, hb⟩
      have hR5 := (HR.out.on HB1.out).on hb
      have x0 := hR5.c0
      have x1 := hR5.fz 0
      have HF := Lib.hid (left_pass T (w := w) ht.out hR5 (HA.out.trans ((HB1.out.trans (hb.mono HB1.out.size)).mono HA.out.size)) (by omega))
      have HRS := Lib.hid (hR5.set A5 n5 c5)
      clear ht hb hR5
      go_wp2
      (try simp only [Exit.inBlock, Exit.then])
      refine bodyPost_ret (ret_tree2 rfl _ _ _ A5 n5 c5 _ rfl rfl HRS.out) rfl ?_
      exact HF.out
    · subst hk
      have CW := Lib.hid (change_any T B n c ks 2 p q at_ a1 c1 old a2 c2 new er res w1 (T.on HTR.out HB1.out) hk4 HW.out (by have := HL.out.p; simp only [] at this; omega) (HO.out.on HB1.out).h (fun e => may_ck HCK.out e) HL.out.old HL.out.new (Tabs.on HTB.out HB1.out) (HDC.out (by simp) (by simp) (by simp)))
      clear hd
      go_wp2_with fail
      refine CW.out.mono ?_
      rintro e w7 ⟨A5, n5, c5, rfl, ht, hb⟩
      have hR5 := (HR.out.on HB1.out).on hb
      have x0 := hR5.c0
      have x1 := hR5.fz 0
      have HF := Lib.hid (left_pass T (w := w) ht.out hR5 (HA.out.trans ((HB1.out.trans (hb.mono HB1.out.size)).mono HA.out.size)) (by omega))
      have HRS := Lib.hid (hR5.set A5 n5 c5)
      clear ht hb hR5
      go_wp2
      (try simp only [Exit.inBlock, Exit.then])
      refine bodyPost_ret (ret_tree2 rfl _ _ _ A5 n5 c5 _ rfl rfl HRS.out) rfl ?_
      exact HF.out
    · subst hk
      have CW := Lib.hid (change_any T B n c ks 4 p q at_ a1 c1 old a2 c2 new er res w1 (T.on HTR.out HB1.out) hk4 HW.out (by have := HL.out.p; simp only [] at this; omega) (HO.out.on HB1.out).h (fun e => may_ck HCK.out e) HL.out.old HL.out.new (Tabs.on HTB.out HB1.out) (HDC.out (by simp) (by simp) (by simp)))
      clear hd
      go_wp2_with fail
      refine CW.out.mono ?_
      rintro e w7 ⟨A5, n5, c5, rfl, ht, hb⟩
      have hR5 := (HR.out.on HB1.out).on hb
      have x0 := hR5.c0
      have x1 := hR5.fz 0
      have HF := Lib.hid (left_pass T (w := w) ht.out hR5 (HA.out.trans ((HB1.out.trans (hb.mono HB1.out.size)).mono HA.out.size)) (by omega))
      have HRS := Lib.hid (hR5.set A5 n5 c5)
      clear ht hb hR5
      go_wp2
      (try simp only [Exit.inBlock, Exit.then])
      refine bodyPost_ret (ret_tree2 rfl _ _ _ A5 n5 c5 _ rfl rfl HRS.out) rfl ?_
      exact HF.out
    · subst hk
      have CW := Lib.hid (change_any T B n c ks 6 p q at_ a1 c1 old a2 c2 new er res w1 (T.on HTR.out HB1.out) hk4 HW.out (by have := HL.out.p; simp only [] at this; omega) (HO.out.on HB1.out).h (fun e => may_ck HCK.out e) HL.out.old HL.out.new (Tabs.on HTB.out HB1.out) (HDC.out (by simp) (by simp) (by simp)))
      clear hd
      go_wp2_with fail
      refine CW.out.mono ?_
      rintro e w7 ⟨A5, n5, c5, rfl, ht, hb⟩
      have hR5 := (HR.out.on HB1.out).on hb
      have x0 := hR5.c0
      have x1 := hR5.fz 0
      have HF := Lib.hid (left_pass T (w := w) ht.out hR5 (HA.out.trans ((HB1.out.trans (hb.mono HB1.out.size)).mono HA.out.size)) (by omega))
      have HRS := Lib.hid (hR5.set A5 n5 c5)
      clear ht hb hR5
      go_wp2
      (try simp only [Exit.inBlock, Exit.then])
      refine bodyPost_ret (ret_tree2 rfl _ _ _ A5 n5 c5 _ rfl rfl HRS.out) rfl ?_
      exact HF.out
  · have hc1 : (ck == 0) = false := by simpa using hc0
    have hc2 : (ck != 0) = true := by simpa using hc0
    have hd := HD.out
    unfold apP at hd
    rw [HCK.out, if_pos hc0] at hd
    obtain ⟨e1, e2⟩ := Prod.mk.inj hd
    subst e1
    clear hd
    have hR5 := HR.out.on HB1.out
    have x0 := hR5.c0
    have x1 := hR5.fz 0
    have HF := Lib.hid (left_no T (w := w) (G := w.heap.size + 2) (res := res) (hc0) (HA.out.trans (HB1.out.mono HA.out.size)) (by omega))
    have HRS := Lib.hid (hR5.set none 0 0)
    clear hR5
    go_wp2
    (try simp only [Exit.inBlock, Exit.then])
    refine bodyPost_ret (ret_tree2 rfl _ _ _ none 0 0 _ rfl rfl HRS.out) rfl ?_
    exact HF.out
/-- What All holds at each round. -/
structure AllI (Tr : World → Option Addr → Nat → Nat → List PF → Prop) (w wr : World) (B : Option Addr) (n c : Nat) (ks : List PF) : Prop where
  tr : Tr wr B n c ks
  at_ : TAt wr w.heap.size B n c
  res : TAt wr (w.heap.size + 1) none 0 0
  below : Below w.heap.size w wr
theorem apAll_cons (ks : List PF) (p : Pk) (l : List Pk) (e1 : Int) (r1 : List PF) (h : apP ks p = (e1, r1)) : apAll ks (p :: l) = if e1 = 0 then apAll r1 l else (e1, []) := by rw [apAll, h]
theorem AllI.on {Tr : World → Option Addr → Nat → Nat → List PF → Prop} (T : TreeC Tr) {w wr w' : World} {B : Option Addr} {n c : Nat} {ks : List PF} (h : AllI Tr w wr B n c ks) (hb : Below wr.heap.size wr w') : AllI Tr w w' B n c ks :=
  ⟨T.on h.tr hb, h.at_.on hb, h.res.on hb, h.below.trans (hb.mono h.below.size)⟩
theorem tat_other {w : World} {G H n c n2 c2 : Nat} {A A2 : Option Addr} (h : TAt w G A n c) (hne : G ≠ H) : TAt (w.setCell ⟨H, 0, none⟩ (.slice A2 n2 c2)) G A n c := by
  have hg := grown_cell w H 0 (.slice A2 n2 c2)
  exact (hg.block G h.lt (fun e => by cases e; exact hne rfl)).trans h
set_option maxHeartbeats 8000000 in
set_option maxRecDepth 100000 in
theorem pall_m {Tr : World → Option Addr → Nat → Nat → List PF → Prop} (T : TreeC Tr) (B : Option Addr) (n c : Nat) (ks : List PF) (A : Option Addr) (ps : List Pm) (cap : Nat) (er : Int) (res : List PF) (w : World) (h : Tr w B n c ks) (hk4 : ks.length + ps.length ≤ 400) (hw : Well ks) (hs : Ps w w.heap.size A ps) (hl : ∀ x ∈ ps, x.Mid) (hTb : Tabs w) (hd : apAll ks (pkeys ps) = (er, res)) :
    Calls Tryz.prog 17 #[.agg #[.slice B n c], .slice A ps.length cap] w (TreeLeft Tr w er res) := by
  have hal : Below w.heap.size w ((w.alloc (.cells #[.slice B n c] 43)).alloc (.cells #[.slice none 0 0] 43)) := ((Below.refl _ _).alloc (Nat.le_refl _) _).alloc (by simp) _
  have HST : Hid (AllI Tr w ((w.alloc (.cells #[.slice B n c] 43)).alloc (.cells #[.slice none 0 0] 43)) B n c ks) := ⟨T.on h hal, (TAt.new_ w B n c).on ((Below.refl _ _).alloc (Nat.le_refl _) _), by
    have h := TAt.new_ (w.alloc (.cells #[.slice B n c] 43)) none 0 0
    rw [World.size_alloc] at h
    exact h, hal⟩
  have HS := Lib.hid hs
  have HL := Lib.hid hl
  have HTB := Lib.hid hTb
  have HI0 : Hid (Well ks ∧ ks.length ≤ ks.length + 0 ∧ apAll ks ((pkeys ps).drop 0) = (er, res)) := ⟨hw, Nat.le_refl _, by rw [List.drop_zero]; exact hd⟩
  clear hal h hw hs hl hTb hd
  go_enter Tryz.func17, Tryz.ntmps17
  go_wp2_with fail
  generalize hWA : ((w.alloc (.cells #[.slice B n c] 43)).alloc (.cells #[.slice none 0 0] 43)) = wa at *
  clear hWA
  go_loopw [12] (fun s12 wr => ∃ (k : Nat) (B1 : Option Addr) (n1 c1 : Nat) (js : List PF), k ≤ ps.length ∧ s12 = .int .i64 (k : Int) ∧ Hid (AllI Tr w wr B1 n1 c1 js) ∧ Hid (Well js ∧ js.length ≤ ks.length + k ∧ apAll js ((pkeys ps).drop k) = (er, res))) (fun s12 _ => ps.length - (intOf s12).toNat)
  case atStart => exact ⟨0, B, n, c, ks, Nat.zero_le _, rfl, HST, HI0⟩
  case round =>
    obtain ⟨k, B1, n1, c1, js, hk, rfl, HI, HJ⟩ := hrel
    clear HST HI0
    by_cases hlt : k < ps.length
    · have hS := HS.out.on HI.out.below
      obtain ⟨b, off, e, bl, d0, d1, d2, d3, d4, d5⟩ := hS.get hlt
      subst e
      have hok := hS.ok ps[k] (List.getElem_mem _)
      have hlk := HL.out ps[k] (List.getElem_mem _)
      obtain ⟨hjw, hjl, hja⟩ := HJ.out
      have hltk : k < (pkeys ps).length := by rw [pkeys_len]; exact hlt
      rw [List.drop_eq_getElem_cons hltk, show (pkeys ps)[k] = ps[k].key from by simp [pkeys]] at hja
      obtain ⟨e1, r1, hap⟩ : ∃ e1 r1, apP js ps[k].key = (e1, r1) := ⟨_, _, rfl⟩
      rw [apAll_cons _ _ _ _ _ hap] at hja
      have hrl : r1.length ≤ ks.length + (k + 1) := by
        have := ap_len js ps[k].key
        rw [hap] at this
        simp only [] at this
        omega
      have hrw : e1 = 0 → Well r1 := fun e => by subst e; exact ap_well hjw hap
      have hal : Below wr.heap.size wr (wr.alloc (.cells #[.int .i64 ps[k].kind, .string ps[k].p, .string ps[k].dst, .int .i64 ps[k].at_, .slice ps[k].a1 ps[k].old.length ps[k].c1, .slice ps[k].a2 ps[k].new.length ps[k].c2] 33)) := (Below.refl _ _).alloc (Nat.le_refl _) _
      have HIA := Lib.hid (HI.out.on T hal)
      have HPA : Hid (PrimAt (wr.alloc (.cells #[.int .i64 ps[k].kind, .string ps[k].p, .string ps[k].dst, .int .i64 ps[k].at_, .slice ps[k].a1 ps[k].old.length ps[k].c1, .slice ps[k].a2 ps[k].new.length ps[k].c2] 33)) wr.heap.size ps[k]) := PrimAt.new_ wr ps[k]
      have CA := Lib.hid (papply_m T B1 n1 c1 js ps[k] e1 r1 (wr.alloc (.cells #[.int .i64 ps[k].kind, .string ps[k].p, .string ps[k].dst, .int .i64 ps[k].at_, .slice ps[k].a1 ps[k].old.length ps[k].c1, .slice ps[k].a2 ps[k].new.length ps[k].c2] 33)) HIA.out.tr (by omega) hjw (hok.on hal) hlk (Tabs.on HTB.out HIA.out.below) hap)
      have HJA := Lib.hid hja
      have HRL := Lib.hid hrl
      have HRW := Lib.hid hrw
      have hsz : w.heap.size + 1 < wr.heap.size := HI.out.res.lt
      clear hal hok hlk hjw hjl hja hap hrl hrw HI HJ hS hltk
      unfold Pm.val at CA
      have p0 := HPA.out.c0
      have p1 := HPA.out.c1
      have p2 := HPA.out.c2
      have p3 := HPA.out.c3
      have p4 := HPA.out.c4
      have p5 := HPA.out.c5
      have t0 := HIA.out.at_.c0
      generalize ps[k].kind = kind at *
      generalize ps[k].p = p at *
      generalize ps[k].dst = q at *
      generalize ps[k].at_ = at_ at *
      generalize ps[k].a1 = a1 at *
      generalize ps[k].c1 = c3 at *
      generalize ps[k].old.length = m1 at *
      generalize ps[k].a2 = a2 at *
      generalize ps[k].c2 = c4 at *
      generalize ps[k].new.length = m2 at *
      go_wp2_with fail
      generalize hwb : (wr.alloc (.cells #[.int .i64 kind, .string p, .string q, .int .i64 at_, .slice a1 m1 c3, .slice a2 m2 c4] 33)) = wb at *
      clear hwb
      refine CA.out.mono ?_
      rintro e w2 ⟨A5, n5, c5, rfl, ht, hb⟩
      have hal2 : Below w2.heap.size w2 (w2.alloc (.cells #[.slice A5 n5 c5] 43)) := (Below.refl _ _).alloc (Nat.le_refl _) _
      have hb2 := hb.trans (hal2.mono hb.size)
      have HI2 := Lib.hid (HIA.out.on T hb2)
      have HN2 := Lib.hid (TAt.new_ w2 A5 n5 c5)
      have HT2 : Hid ((e1 = 0 → Tr (w2.alloc (.cells #[.slice A5 n5 c5] 43)) A5 n5 c5 r1) ∧ (e1 ≠ 0 → Tr (w2.alloc (.cells #[.slice A5 n5 c5] 43)) A5 n5 c5 [])) := ⟨fun e => T.on (ht.out.1 e) hal2, fun e => T.on (ht.out.2 e) hal2⟩
      have hsz2 : wr.heap.size < w2.heap.size := Nat.lt_of_lt_of_le HPA.out.lt hb.size
      clear ht hb hal2 hb2 CA HIA HPA p0 p1 p2 p3 p4 p5 t0 d0 d1 d2 d3 d4 d5
      by_cases he0 : e1 = 0
      · subst he0
        have hja := HJA.out
        rw [if_pos rfl] at hja
        have HJN : Hid (Well r1 ∧ r1.length ≤ ks.length + (k + 1) ∧ apAll r1 ((pkeys ps).drop (k + 1)) = (er, res)) := ⟨HRW.out rfl, HRL.out, hja⟩
        have ha2 := HI2.out.at_
        have t0 := ha2.c0
        have t1 := ha2.fz 0
        have n0 := HN2.out.c0
        have hga := grown_cell (w2.alloc (.cells #[.slice A5 n5 c5] 43)) w.heap.size 0 (.slice A5 n5 c5)
        have HIN : Hid (AllI Tr w ((w2.alloc (.cells #[.slice A5 n5 c5] 43)).setCell ⟨w.heap.size, 0, none⟩ (.slice A5 n5 c5)) A5 n5 c5 r1) := ⟨T.set (HT2.out.1 rfl) ha2 hga, ha2.set A5 n5 c5, tat_other HI2.out.res (by omega), below_set HI2.out.below (Nat.le_refl _) HI2.out.below.size⟩
        clear hja ha2 hga HJA HRL HRW HT2 HI2
        go_wp2
        go_roundw
        case rel => exact ⟨k + 1, A5, n5, c5, r1, by omega, by go_num, HIN, HJN⟩
        case measure => simp [intOf]; omega
      · have he1 : (e1 == 0) = false := by simpa using he0
        have he2 : (e1 != 0) = true := by simpa using he0
        have hja := HJA.out
        rw [if_neg he0] at hja
        obtain ⟨e3, e4⟩ := Prod.mk.inj hja
        subst e3
        have hr2 := HI2.out.res
        have x0 := hr2.c0
        have x1 := hr2.fz 0
        have HF := Lib.hid (left_no T (w := w) (G := w.heap.size + 1) (res := res) he0 HI2.out.below (by omega))
        have HRS := Lib.hid (hr2.set none 0 0)
        clear hr2 hja HI2 HN2 HT2 HJA HRL HRW
        go_wp2
        (try simp only [Exit.inBlock, Exit.then])
        refine bodyPost_ret (ret_tree2 rfl _ _ _ none 0 0 _ rfl rfl HRS.out) rfl ?_
        exact HF.out
    · have hke : k = ps.length := by omega
      subst hke
      obtain ⟨hjw, hjl, hja⟩ := HJ.out
      rw [← pkeys_len, List.drop_length] at hja
      obtain ⟨e3, e4⟩ := Prod.mk.inj (show ((0 : Int), js) = (er, res) from hja)
      subst e3
      subst e4
      have hr2 := HI.out.res
      have t0 := HI.out.at_.c0
      have x0 := hr2.c0
      have x1 := hr2.fz 0
      have HF := Lib.hid (left_pass T (w := w) (er := 0) (res := js) ⟨fun _ => HI.out.tr, fun h => absurd rfl h⟩ hr2 HI.out.below (by omega))
      have HRS := Lib.hid (hr2.set B1 n1 c1)
      clear hr2 hjw hjl hja HI HJ
      go_wp2
      (try simp only [Exit.inBlock, Exit.then])
      refine bodyPost_ret (ret_tree2 rfl _ _ _ B1 n1 c1 _ rfl rfl HRS.out) rfl ?_
      exact HF.out
theorem pall_any {Tr : World → Option Addr → Nat → Nat → List PF → Prop} (T : TreeC Tr) (B : Option Addr) (n c : Nat) (ks : List PF) (A : Option Addr) (ps : List Pm) (cap : Nat) (er : Int) (res : List PF) (w : World) (h : Tr w B n c ks) (hk4 : ks.length + ps.length ≤ 400) (hw : Well ks) (hs : Ps w w.heap.size A ps) (hl : ∀ x ∈ ps, x.Light) (hTb : Tabs w) (hd : apAll ks (pkeys ps) = (er, res)) :
    Calls Tryz.prog 17 #[.agg #[.slice B n c], .slice A ps.length cap] w (TreeLeft Tr w er res) :=
  pall_m T B n c ks A ps cap er res w h hk4 hw hs (fun x hx => (hl x hx).mid) hTb hd
end Go.Proofs.YtalabahjfmcnbaaGreatDoor
