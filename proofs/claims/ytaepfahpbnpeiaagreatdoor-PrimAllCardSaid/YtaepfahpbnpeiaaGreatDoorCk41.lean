/- The reference's Apply of layer 7. -/
import Derived.Test.YtaepfahpbnpeiaaGreatDoorCk36
import Derived.Test.YtaepfahpbnpeiaaGreatDoorCk21
import Derived.Test.YtaepfahpbnpeiaaGreatDoorCk29
namespace Go.Proofs.YtaepfahpbnpeiaaGreatDoor
open Go.RowKit
set_option linter.unusedVariables false

/-- Files and an error come back, by their keys. -/
def ApLeft (w : World) (er : Int) (res : List PF) (e : Ending) (w' : World) : Prop :=
  ∃ A' cap' gs, e = .returned (.tuple #[.slice A' (List.length (α := Fm) gs) cap', .int .i64 er]) ∧ Hid (Fs w' w'.heap.size A' gs ∧ Room A' gs.length cap' ∧ fkeys gs = res) ∧ Below w.heap.size w w'
theorem do_left7 (A : Option Addr) (fs : List Fm) (cap : Nat) (kind : Int) (p q : ByteArray) (ca : Option Addr) (cc : Nat) (cls : List (List UInt8)) (er : Int) (res : List PF) (w : World) (hs : Fs w w.heap.size A fs) (hr : Room A fs.length cap) (h1 : Strs w w.heap.size ca (toBs cls)) (h2 : Room ca cls.length cc) (hn : fs.length ≤ 400) (hp : ∀ f ∈ fs, f.p.size ≤ 9223372036854775807) (hcp : p.size ≤ 9223372036854775807) (hcq : q.size ≤ 9223372036854775807) (hcl : WideK cls) (hT : Tabs w)
    (hd : doK (fkeys fs) kind p.data.toList q.data.toList cls (checkN (toBs cls)) = (er, res)) :
    Calls Tryz.prog 34 #[.slice A fs.length cap, .agg #[.int .i64 kind, .string p, .string q, .slice ca cls.length cc]] w (ApLeft w er res) := by
  have h := refdo_any A fs cap kind p q ca cc cls (checkN (toBs cls)) w hs hr h1 h2 hn hp hcp hcq (fun W hb => refcheck_l ca cls cc W (h1.on hb) (by have := hcl.1; omega) (fun x hx => by have := hcl.2 x hx; omega) (Tabs.on hT hb))
  obtain ⟨k1, k2⟩ := key_do fs ⟨kind, p, q, ca, cc, cls⟩ (checkN (toBs cls))
  simp only [] at k1 k2
  rw [hd] at k1 k2
  refine h.mono fun e w' ⟨A', cap', g1, g2, g3, g4⟩ => ⟨A', cap', _, ?_, ⟨g2, g3, k2⟩, g4⟩
  rw [g1, k1]
theorem find_keyZ {fs : List Fm} {p : ByteArray} {k : Nat} (hk : k < fs.length) (he : fs[k].p = p) (hn : ∀ j (hj : j < fs.length), j < k → fs[j].p ≠ p) : (fkeys fs).find? (fun x => decide (x.1 = p.data.toList)) = some fs[k].key := by
  rw [key_find, find_at hk he hn]
  rfl
theorem find_keyN {fs : List Fm} {p : ByteArray} (hn : ∀ j (hj : j < fs.length), fs[j].p ≠ p) : (fkeys fs).find? (fun x => decide (x.1 = p.data.toList)) = none := by
  rw [key_find, find_none hn]
  rfl
theorem may_of_ck {kind : Int} {p q : ByteArray} {at_ : Int} {a1 : Option Addr} {c1 : Nat} {old : List (List UInt8)} {a2 : Option Addr} {c2 : Nat} {new : List (List UInt8)} (h : ckP (Pm.key ⟨kind, p, q, at_, a1, c1, old, a2, c2, new⟩) = 0) (e : kind = 6) : mayB [⟨at_, a1, c1, old, a2, c2, new⟩] = true := by
  rw [ckP_by] at h
  simp only [] at h
  split at h
  · omega
  split at h
  · omega
  split at h
  · omega
  rename_i h3
  rw [mayB_one, decide_eq_true_eq]
  simp only [not_and] at h3
  have h4 := h3 e
  unfold linedB at h4
  rw [decide_eq_false_iff_not, Classical.not_not] at h4
  exact ⟨h4.1, h4.2.1⟩
set_option maxHeartbeats 20000000 in
set_option maxRecDepth 100000 in
theorem refap_any (A : Option Addr) (fs : List Fm) (cap : Nat) (x : Pm) (w : World) (hs : Fs w w.heap.size A fs) (hr : Room A fs.length cap) (hw : Well (fkeys fs)) (hn : fs.length ≤ 400) (ok : x.Ok w w.heap.size) (hl : x.Light) (hT : Tabs w) (er : Int) (res : List PF) (hd : apP (fkeys fs) x.key = (er, res)) :
    Calls Tryz.prog 11 #[.slice A fs.length cap, x.val] w (ApLeft w er res) := by
  have CK0 := fun W (hb : Below w.heap.size w W) => refckp_any x W (ok.on hb) (Nat.le_trans hl.old.1 (by decide)) (Nat.le_trans hl.new.1 (by decide)) (fun l h => Nat.le_trans (hl.old.2 l h) (by decide)) (fun l h => Nat.le_trans (hl.new.2 l h) (by decide)) (Tabs.on hT hb)
  obtain ⟨kind, p, q, at_, a1, c1, old, a2, c2, new⟩ := x
  have hpp := hl.p
  have hpq := hl.q
  have hlo := hl.old
  have hln := hl.new
  have hd : apP (fkeys fs) ⟨kind, p.data.toList, q.data.toList, at_, old, new⟩ = (er, res) := hd
  unfold apP at hd
  obtain ⟨ck, hck⟩ : ∃ r, ckP (Pm.key ⟨kind, p, q, at_, a1, c1, old, a2, c2, new⟩) = r := ⟨_, rfl⟩
  have hck2 : ckP ⟨kind, p.data.toList, q.data.toList, at_, old, new⟩ = ck := hck
  rw [hck2] at hd
  rw [hck] at CK0
  clear hck2
  unfold Pm.val at CK0 ⊢
  simp only [] at hd
  simp only [] at CK0 hpp hpq hlo hln ⊢
  have hal : Below w.heap.size w (w.alloc (.cells #[.int .i64 kind, .string p, .string q, .int .i64 at_, .slice a1 old.length c1, .slice a2 new.length c2] 38)) := (Below.refl _ _).alloc (Nat.le_refl _) _
  have HP : Hid (PAt (w.alloc (.cells #[.int .i64 kind, .string p, .string q, .int .i64 at_, .slice a1 old.length c1, .slice a2 new.length c2] 38)) w.heap.size kind p q at_ a1 old.length c1 a2 new.length c2) := PAt.new_ w kind p q at_ a1 old.length c1 a2 new.length c2
  have HS := Lib.hid (hs.on hal)
  have HO := Lib.hid (ok.on hal)
  have HT := Lib.hid (Tabs.on hT hal)
  have HA := Lib.hid hal
  have CK := Lib.hid (CK0 _ hal)
  have HR := Lib.hid hr
  have hfp : ∀ f ∈ fs, f.p.size ≤ 200 := fun f hf => psize_le f.p (hw.paths f.key (List.mem_map.2 ⟨f, hf, rfl⟩))
  have HFP : Hid (∀ f ∈ fs, f.p.size ≤ 9223372036854775807) := fun f hf => by have := hfp f hf; omega
  have HFL : Hid (∀ f ∈ fs, WideK f.ls ∧ f.ls.length ≤ 2000) := fun f hf => check_wide (hw.lines f.key (List.mem_map.2 ⟨f, hf, rfl⟩))
  have m1 := hlo.1
  have m2 := hln.1
  have HLN := Lib.hid hln
  have CF := Lib.hid (fun W (hb : Below (w.alloc (.cells #[.int .i64 kind, .string p, .string q, .int .i64 at_, .slice a1 old.length c1, .slice a2 new.length c2] 38)).heap.size (w.alloc (.cells #[.int .i64 kind, .string p, .string q, .int .i64 at_, .slice a1 old.length c1, .slice a2 new.length c2] 38)) W) => reffind_any A fs cap p W (HS.out.on hb) (by omega))
  have CD := Lib.hid (fun (kd : Int) (q2 : ByteArray) (ca : Option Addr) (cc : Nat) (cls : List (List UInt8)) (hcl : WideK cls) (hq2 : q2.size ≤ 9223372036854775807) (hd2 : doK (fkeys fs) kd p.data.toList q2.data.toList cls (checkN (toBs cls)) = (er, res)) W (hb : Below (w.alloc (.cells #[.int .i64 kind, .string p, .string q, .int .i64 at_, .slice a1 old.length c1, .slice a2 new.length c2] 38)).heap.size (w.alloc (.cells #[.int .i64 kind, .string p, .string q, .int .i64 at_, .slice a1 old.length c1, .slice a2 new.length c2] 38)) W) (hc : Strs W W.heap.size ca (toBs cls)) (hc2 : Room ca cls.length cc) => do_left7 A fs cap kd p q2 ca cc cls er res W (HS.out.on hb) HR.out hc hc2 hn HFP.out (by omega) hq2 hcl (Tabs.on HT.out hb) hd2)
  clear hal hs ok hT hr hfp hw hlo hln CK0
  have b0 := HP.out.k0
  have b1 := HP.out.k1
  have b2 := HP.out.k2
  have b3 := HP.out.k3
  have b4 := HP.out.k4
  have b5 := HP.out.k5
  have HE : Hid (∀ W, res = [] → Below (w.alloc (.cells #[.int .i64 kind, .string p, .string q, .int .i64 at_, .slice a1 old.length c1, .slice a2 new.length c2] 38)).heap.size (w.alloc (.cells #[.int .i64 kind, .string p, .string q, .int .i64 at_, .slice a1 old.length c1, .slice a2 new.length c2] 38)) W → ApLeft w er res (.returned (.tuple #[.slice none 0 0, .int .i64 er])) W) := fun W h hb => ⟨none, 0, [], rfl, ⟨Fs.nil, ⟨fun _ => rfl, Nat.le_refl _⟩, h.symm⟩, HA.out.trans (hb.mono HA.out.size)⟩
  go_enter Tryz.func11, Tryz.ntmps11
  go_wp2_with fail
  generalize w.alloc (.cells #[.int .i64 kind, .string p, .string q, .int .i64 at_, .slice a1 old.length c1, .slice a2 new.length c2] 38) = wa at *
  by_cases hc0 : ck = 0
  · subst hc0
    refine CK.out.mono ?_
    rintro e w1 ⟨rfl, hb⟩
    have HB1 := Lib.hid hb
    clear hb b0 b1 b2 b3 b4 b5
    have b0 := (HP.out.on HB1.out).k0
    have b1 := (HP.out.on HB1.out).k1
    have b2 := (HP.out.on HB1.out).k2
    have b3 := (HP.out.on HB1.out).k3
    have b4 := (HP.out.on HB1.out).k4
    have b5 := (HP.out.on HB1.out).k5
    have hf := ck_facts (p := ⟨kind, p.data.toList, q.data.toList, at_, old, new⟩) (by have h := hck; simp only [Pm.key] at h; exact h)
    simp only [] at hf
    obtain ⟨kk1, kk6, u1, u2, u3, u4, u5⟩ := hf
    clear u1 u2 u3 u4 u5
    have hm6 : kind = 6 → mayB [⟨at_, a1, c1, old, a2, c2, new⟩] = true := fun e => may_of_ck hck e
    clear hck
    have hk : kind = 1 ∨ kind = 2 ∨ kind = 3 ∨ kind = 4 ∨ kind = 5 ∨ kind = 6 := by omega
    clear kk1 kk6
    rw [if_neg (by simp)] at hd
    rcases hk with hk1 | hk2 | hk3 | hk4 | hk5 | hk6
    · subst hk1
      rw [if_pos rfl] at hd
      rcases findZ_cases fs p with ⟨k, hkf, hz, hpf, hnf⟩ | ⟨hz, hnf⟩
      all_goals
        go_wp2_with fail
        have CFk := CF.out w1 HB1.out
        rw [hz] at CFk
        refine (CFk).mono ?_
        rintro e wx ⟨rfl, hwx⟩
        replace hwx := hwx.symm
        subst hwx
        clear CFk
        have CDk := Lib.hid (CD.out 0 ⟨#[]⟩ none 0 [] ⟨by simp, by simp⟩ (by decide) hd w1 HB1.out Strs.none_ ⟨fun _ => rfl, Nat.le_refl _⟩)
        clear CD
        go_wp2_with fail
        refine CDk.out.mono ?_
        rintro e w5 ⟨A5, k5, g5, rfl, hg, hb⟩
        have HF : Hid (ApLeft w er res (.returned (.tuple #[.slice A5 g5.length k5, .int .i64 er])) w5) := ⟨A5, k5, g5, rfl, hg, HA.out.trans ((HB1.out.trans (hb.mono HB1.out.size)).mono HA.out.size)⟩
        clear hb hg CDk
        go_wp2
        go_ret2
        exact HF.out
    · subst hk2
      rw [if_neg (by decide), if_neg (by decide), if_neg (by decide)] at hd
      rcases findZ_cases fs p with ⟨k, hkf, hz, hpf, hnf⟩ | ⟨hz, hnf⟩
      · have hfd := find_keyZ hkf hpf hnf
        have q1 : (0 : Int) ≤ (k : Int) := by omega
        have q2 : (k : Int) < (fs.length : Int) := by omega
        have q3 : ¬ ((k : Int) < 0) := by omega
        rw [hfd] at hd
        simp only [show fs[k].key.2.1 = fs[k].d from rfl, show fs[k].key.2.2 = fs[k].ls from rfl] at hd
        obtain ⟨hfw, hf2000⟩ := HFL.out fs[k] (List.getElem_mem _)
        have hokf := (HS.out.on HB1.out).ok fs[k] (List.getElem_mem _)
        obtain ⟨b, off, rfl, hbb, d0, d1, d2⟩ := (HS.out.on HB1.out).get hkf
        clear hfd hnf hpf
        cases hfdv : fs[k].d
        · rw [hfdv] at d1 hd
          rw [if_pos (by simp)] at hd
          obtain ⟨rfl, rfl⟩ := Prod.mk.inj hd
          go_wp2_with fail
          have CFk := CF.out w1 HB1.out
          rw [hz] at CFk
          refine (CFk).mono ?_
          rintro e wx ⟨rfl, hwx⟩
          replace hwx := hwx.symm
          subst hwx
          clear CFk
          go_wp2_with fail
          go_quiet (fail)
          have hbd := below_drewN (Below.refl w1.heap.size w1) nq
          have d0q := cell_on d0 hbd
          have d1q := cell_on d1 hbd
          have d2q := cell_on d2 hbd
          have HBq := Lib.hid (HB1.out.trans (hbd.mono HB1.out.size))
          clear d0 d1 d2 b0 b1 b2 b3 b4 b5 hbd HB1
          generalize w1.drewN nq = wq at *
          have d0 := d0q
          have d1 := d1q
          have d2 := d2q
          clear d0q d1q d2q
          have b0 := (HP.out.on HBq.out).k0
          have b1 := (HP.out.on HBq.out).k1
          have b2 := (HP.out.on HBq.out).k2
          have b3 := (HP.out.on HBq.out).k3
          have b4 := (HP.out.on HBq.out).k4
          have b5 := (HP.out.on HBq.out).k5
          go_wp2
          go_ret2
          exact HE.out _ (by simp) HBq.out
        · rw [hfdv] at d1 hd
          rw [if_neg (by simp), if_pos (by simp)] at hd
          by_cases h0 : fs[k].ls = []
          · rw [if_neg (by simp [h0])] at hd
            have h00 : fs[k].ls.length = 0 := by rw [h0]; rfl
            rw [h00] at d2
            go_wp2_with fail
            have CFk := CF.out w1 HB1.out
            rw [hz] at CFk
            refine (CFk).mono ?_
            rintro e wx ⟨rfl, hwx⟩
            replace hwx := hwx.symm
            subst hwx
            clear CFk
            go_wp2_with fail
            go_quiet (fail)
            have hbd := below_drewN (Below.refl w1.heap.size w1) nq
            have d0q := cell_on d0 hbd
            have d1q := cell_on d1 hbd
            have d2q := cell_on d2 hbd
            have HBq := Lib.hid (HB1.out.trans (hbd.mono HB1.out.size))
            clear d0 d1 d2 b0 b1 b2 b3 b4 b5 hbd HB1
            generalize w1.drewN nq = wq at *
            have d0 := d0q
            have d1 := d1q
            have d2 := d2q
            clear d0q d1q d2q
            have b0 := (HP.out.on HBq.out).k0
            have b1 := (HP.out.on HBq.out).k1
            have b2 := (HP.out.on HBq.out).k2
            have b3 := (HP.out.on HBq.out).k3
            have b4 := (HP.out.on HBq.out).k4
            have b5 := (HP.out.on HBq.out).k5
            have CDk := Lib.hid (CD.out 2 ⟨#[]⟩ none 0 [] ⟨by simp, by simp⟩ (by decide) hd wq HBq.out Strs.none_ ⟨fun _ => rfl, Nat.le_refl _⟩)
            clear CD
            go_wp2_with fail
            refine CDk.out.mono ?_
            rintro e w5 ⟨A5, k5, g5, rfl, hg, hb⟩
            have HF : Hid (ApLeft w er res (.returned (.tuple #[.slice A5 g5.length k5, .int .i64 er])) w5) := ⟨A5, k5, g5, rfl, hg, HA.out.trans ((HBq.out.trans (hb.mono HBq.out.size)).mono HA.out.size)⟩
            clear hb hg CDk
            go_wp2
            go_ret2
            exact HF.out
          · rw [if_pos h0] at hd
            have hpos : (0 : Int) < (fs[k].ls.length : Int) := by have := List.length_pos_iff.2 h0; omega
            obtain ⟨rfl, rfl⟩ := Prod.mk.inj hd
            go_wp2_with fail
            have CFk := CF.out w1 HB1.out
            rw [hz] at CFk
            refine (CFk).mono ?_
            rintro e wx ⟨rfl, hwx⟩
            replace hwx := hwx.symm
            subst hwx
            clear CFk
            go_wp2_with fail
            go_quiet (fail)
            have hbd := below_drewN (Below.refl w1.heap.size w1) nq
            have d0q := cell_on d0 hbd
            have d1q := cell_on d1 hbd
            have d2q := cell_on d2 hbd
            have HBq := Lib.hid (HB1.out.trans (hbd.mono HB1.out.size))
            clear d0 d1 d2 b0 b1 b2 b3 b4 b5 hbd HB1
            generalize w1.drewN nq = wq at *
            have d0 := d0q
            have d1 := d1q
            have d2 := d2q
            clear d0q d1q d2q
            have b0 := (HP.out.on HBq.out).k0
            have b1 := (HP.out.on HBq.out).k1
            have b2 := (HP.out.on HBq.out).k2
            have b3 := (HP.out.on HBq.out).k3
            have b4 := (HP.out.on HBq.out).k4
            have b5 := (HP.out.on HBq.out).k5
            go_wp2
            go_ret2
            exact HE.out _ (by simp) HBq.out
      · have hfd := find_keyN hnf
        rw [hfd] at hd
        simp only [] at hd
        obtain ⟨rfl, rfl⟩ := Prod.mk.inj hd
        go_wp2_with fail
        have CFk := CF.out w1 HB1.out
        rw [hz] at CFk
        refine (CFk).mono ?_
        rintro e wx ⟨rfl, hwx⟩
        replace hwx := hwx.symm
        subst hwx
        clear CFk
        go_wp2
        go_ret2
        exact HE.out _ (by simp) HB1.out
    · subst hk3
      rw [if_neg (by decide), if_pos rfl] at hd
      rcases findZ_cases fs p with ⟨k, hkf, hz, hpf, hnf⟩ | ⟨hz, hnf⟩
      · have hfd := find_keyZ hkf hpf hnf
        have q1 : (0 : Int) ≤ (k : Int) := by omega
        have q2 : (k : Int) < (fs.length : Int) := by omega
        have q3 : ¬ ((k : Int) < 0) := by omega
        rw [hfd, Option.isSome_some, if_pos rfl] at hd
        obtain ⟨rfl, rfl⟩ := Prod.mk.inj hd
        go_wp2_with fail
        have CFk := CF.out w1 HB1.out
        rw [hz] at CFk
        refine (CFk).mono ?_
        rintro e wx ⟨rfl, hwx⟩
        replace hwx := hwx.symm
        subst hwx
        clear CFk
        go_wp2
        go_ret2
        exact HE.out _ (by simp) HB1.out
      · have hfd := find_keyN hnf
        rw [hfd, Option.isSome_none, if_neg (by simp)] at hd
        go_wp2_with fail
        have CFk := CF.out w1 HB1.out
        rw [hz] at CFk
        refine (CFk).mono ?_
        rintro e wx ⟨rfl, hwx⟩
        replace hwx := hwx.symm
        subst hwx
        clear CFk
        have CDk := Lib.hid (CD.out 1 ⟨#[]⟩ none 0 [] ⟨by simp, by simp⟩ (by decide) hd w1 HB1.out Strs.none_ ⟨fun _ => rfl, Nat.le_refl _⟩)
        clear CD
        go_wp2_with fail
        refine CDk.out.mono ?_
        rintro e w5 ⟨A5, k5, g5, rfl, hg, hb⟩
        have HF : Hid (ApLeft w er res (.returned (.tuple #[.slice A5 g5.length k5, .int .i64 er])) w5) := ⟨A5, k5, g5, rfl, hg, HA.out.trans ((HB1.out.trans (hb.mono HB1.out.size)).mono HA.out.size)⟩
        clear hb hg CDk
        go_wp2
        go_ret2
        exact HF.out
    · subst hk4
      rw [if_neg (by decide), if_neg (by decide), if_neg (by decide)] at hd
      rcases findZ_cases fs p with ⟨k, hkf, hz, hpf, hnf⟩ | ⟨hz, hnf⟩
      · have hfd := find_keyZ hkf hpf hnf
        have q1 : (0 : Int) ≤ (k : Int) := by omega
        have q2 : (k : Int) < (fs.length : Int) := by omega
        have q3 : ¬ ((k : Int) < 0) := by omega
        rw [hfd] at hd
        simp only [show fs[k].key.2.1 = fs[k].d from rfl, show fs[k].key.2.2 = fs[k].ls from rfl] at hd
        obtain ⟨hfw, hf2000⟩ := HFL.out fs[k] (List.getElem_mem _)
        have hokf := (HS.out.on HB1.out).ok fs[k] (List.getElem_mem _)
        obtain ⟨b, off, rfl, hbb, d0, d1, d2⟩ := (HS.out.on HB1.out).get hkf
        clear hfd hnf hpf
        cases hfdv : fs[k].d
        · rw [hfdv] at d1 hd
          rw [if_neg (by simp), if_pos (by simp)] at hd
          by_cases h0 : fs[k].ls = []
          · rw [if_neg (by simp [h0])] at hd
            have h00 : fs[k].ls.length = 0 := by rw [h0]; rfl
            rw [h00] at d2
            go_wp2_with fail
            have CFk := CF.out w1 HB1.out
            rw [hz] at CFk
            refine (CFk).mono ?_
            rintro e wx ⟨rfl, hwx⟩
            replace hwx := hwx.symm
            subst hwx
            clear CFk
            go_wp2_with fail
            go_quiet (fail)
            have hbd := below_drewN (Below.refl w1.heap.size w1) nq
            have d0q := cell_on d0 hbd
            have d1q := cell_on d1 hbd
            have d2q := cell_on d2 hbd
            have HBq := Lib.hid (HB1.out.trans (hbd.mono HB1.out.size))
            clear d0 d1 d2 b0 b1 b2 b3 b4 b5 hbd HB1
            generalize w1.drewN nq = wq at *
            have d0 := d0q
            have d1 := d1q
            have d2 := d2q
            clear d0q d1q d2q
            have b0 := (HP.out.on HBq.out).k0
            have b1 := (HP.out.on HBq.out).k1
            have b2 := (HP.out.on HBq.out).k2
            have b3 := (HP.out.on HBq.out).k3
            have b4 := (HP.out.on HBq.out).k4
            have b5 := (HP.out.on HBq.out).k5
            have CDk := Lib.hid (CD.out 2 ⟨#[]⟩ none 0 [] ⟨by simp, by simp⟩ (by decide) hd wq HBq.out Strs.none_ ⟨fun _ => rfl, Nat.le_refl _⟩)
            clear CD
            go_wp2_with fail
            refine CDk.out.mono ?_
            rintro e w5 ⟨A5, k5, g5, rfl, hg, hb⟩
            have HF : Hid (ApLeft w er res (.returned (.tuple #[.slice A5 g5.length k5, .int .i64 er])) w5) := ⟨A5, k5, g5, rfl, hg, HA.out.trans ((HBq.out.trans (hb.mono HBq.out.size)).mono HA.out.size)⟩
            clear hb hg CDk
            go_wp2
            go_ret2
            exact HF.out
          · rw [if_pos h0] at hd
            have hpos : (0 : Int) < (fs[k].ls.length : Int) := by have := List.length_pos_iff.2 h0; omega
            obtain ⟨rfl, rfl⟩ := Prod.mk.inj hd
            go_wp2_with fail
            have CFk := CF.out w1 HB1.out
            rw [hz] at CFk
            refine (CFk).mono ?_
            rintro e wx ⟨rfl, hwx⟩
            replace hwx := hwx.symm
            subst hwx
            clear CFk
            go_wp2_with fail
            go_quiet (fail)
            have hbd := below_drewN (Below.refl w1.heap.size w1) nq
            have d0q := cell_on d0 hbd
            have d1q := cell_on d1 hbd
            have d2q := cell_on d2 hbd
            have HBq := Lib.hid (HB1.out.trans (hbd.mono HB1.out.size))
            clear d0 d1 d2 b0 b1 b2 b3 b4 b5 hbd HB1
            generalize w1.drewN nq = wq at *
            have d0 := d0q
            have d1 := d1q
            have d2 := d2q
            clear d0q d1q d2q
            have b0 := (HP.out.on HBq.out).k0
            have b1 := (HP.out.on HBq.out).k1
            have b2 := (HP.out.on HBq.out).k2
            have b3 := (HP.out.on HBq.out).k3
            have b4 := (HP.out.on HBq.out).k4
            have b5 := (HP.out.on HBq.out).k5
            go_wp2
            go_ret2
            exact HE.out _ (by simp) HBq.out
        · rw [hfdv] at d1 hd
          rw [if_pos (by simp)] at hd
          obtain ⟨rfl, rfl⟩ := Prod.mk.inj hd
          go_wp2_with fail
          have CFk := CF.out w1 HB1.out
          rw [hz] at CFk
          refine (CFk).mono ?_
          rintro e wx ⟨rfl, hwx⟩
          replace hwx := hwx.symm
          subst hwx
          clear CFk
          go_wp2_with fail
          go_quiet (fail)
          have hbd := below_drewN (Below.refl w1.heap.size w1) nq
          have d0q := cell_on d0 hbd
          have d1q := cell_on d1 hbd
          have d2q := cell_on d2 hbd
          have HBq := Lib.hid (HB1.out.trans (hbd.mono HB1.out.size))
          clear d0 d1 d2 b0 b1 b2 b3 b4 b5 hbd HB1
          generalize w1.drewN nq = wq at *
          have d0 := d0q
          have d1 := d1q
          have d2 := d2q
          clear d0q d1q d2q
          have b0 := (HP.out.on HBq.out).k0
          have b1 := (HP.out.on HBq.out).k1
          have b2 := (HP.out.on HBq.out).k2
          have b3 := (HP.out.on HBq.out).k3
          have b4 := (HP.out.on HBq.out).k4
          have b5 := (HP.out.on HBq.out).k5
          go_wp2
          go_ret2
          exact HE.out _ (by simp) HBq.out
      · have hfd := find_keyN hnf
        rw [hfd] at hd
        simp only [] at hd
        obtain ⟨rfl, rfl⟩ := Prod.mk.inj hd
        go_wp2_with fail
        have CFk := CF.out w1 HB1.out
        rw [hz] at CFk
        refine (CFk).mono ?_
        rintro e wx ⟨rfl, hwx⟩
        replace hwx := hwx.symm
        subst hwx
        clear CFk
        go_wp2
        go_ret2
        exact HE.out _ (by simp) HB1.out
    · subst hk5
      rw [if_neg (by decide), if_neg (by decide), if_pos rfl] at hd
      rcases findZ_cases fs p with ⟨k, hkf, hz, hpf, hnf⟩ | ⟨hz, hnf⟩
      all_goals
        go_wp2_with fail
        have CFk := CF.out w1 HB1.out
        rw [hz] at CFk
        refine (CFk).mono ?_
        rintro e wx ⟨rfl, hwx⟩
        replace hwx := hwx.symm
        subst hwx
        clear CFk
        have CDk := Lib.hid (CD.out 3 q none 0 [] ⟨by simp, by simp⟩ (by omega) hd w1 HB1.out Strs.none_ ⟨fun _ => rfl, Nat.le_refl _⟩)
        clear CD
        go_wp2_with fail
        refine CDk.out.mono ?_
        rintro e w5 ⟨A5, k5, g5, rfl, hg, hb⟩
        have HF : Hid (ApLeft w er res (.returned (.tuple #[.slice A5 g5.length k5, .int .i64 er])) w5) := ⟨A5, k5, g5, rfl, hg, HA.out.trans ((HB1.out.trans (hb.mono HB1.out.size)).mono HA.out.size)⟩
        clear hb hg CDk
        go_wp2
        go_ret2
        exact HF.out
    · subst hk6
      rw [if_neg (by decide), if_neg (by decide), if_neg (by decide)] at hd
      rcases findZ_cases fs p with ⟨k, hkf, hz, hpf, hnf⟩ | ⟨hz, hnf⟩
      · have hfd := find_keyZ hkf hpf hnf
        have q1 : (0 : Int) ≤ (k : Int) := by omega
        have q2 : (k : Int) < (fs.length : Int) := by omega
        have q3 : ¬ ((k : Int) < 0) := by omega
        rw [hfd] at hd
        simp only [show fs[k].key.2.1 = fs[k].d from rfl, show fs[k].key.2.2 = fs[k].ls from rfl] at hd
        obtain ⟨hfw, hf2000⟩ := HFL.out fs[k] (List.getElem_mem _)
        have hokf := (HS.out.on HB1.out).ok fs[k] (List.getElem_mem _)
        obtain ⟨b, off, rfl, hbb, d0, d1, d2⟩ := (HS.out.on HB1.out).get hkf
        clear hfd hnf hpf
        have hm6 := hm6 rfl
        have hokls := hokf.ls
        have hokr := hokf.r
        clear hokf
        cases hfdv : fs[k].d
        · rw [hfdv] at d1 hd
          rw [if_neg (by simp), if_neg (by simp)] at hd
          go_wp2_with fail
          have CFk := CF.out w1 HB1.out
          rw [hz] at CFk
          refine (CFk).mono ?_
          rintro e wx ⟨rfl, hwx⟩
          replace hwx := hwx.symm
          subst hwx
          clear CFk
          go_wp2_with fail
          go_quiet (fail)
          have hbd := below_drewN (Below.refl w1.heap.size w1) nq
          have d0q := cell_on d0 hbd
          have d1q := cell_on d1 hbd
          have d2q := cell_on d2 hbd
          have HBq := Lib.hid (HB1.out.trans (hbd.mono HB1.out.size))
          have hoklsq := hokls.on hbd
          clear hokls d0 d1 d2 b0 b1 b2 b3 b4 b5 hbd HB1
          generalize w1.drewN nq = wq at *
          have hokls := hoklsq
          clear hoklsq
          have d0 := d0q
          have d1 := d1q
          have d2 := d2q
          clear d0q d1q d2q
          have b0 := (HP.out.on HBq.out).k0
          have b1 := (HP.out.on HBq.out).k1
          have b2 := (HP.out.on HBq.out).k2
          have b3 := (HP.out.on HBq.out).k3
          have b4 := (HP.out.on HBq.out).k4
          have b5 := (HP.out.on HBq.out).k5
          have hdr : Below wq.heap.size wq (wq.drew.alloc (.cells #[.int .i64 at_, .slice a1 old.length c1, .slice a2 new.length c2] 55)) := (Below.refl _ _).drew.alloc (Nat.le_refl _) _
          have HDR := Lib.hid hdr
          have hH : HunkAt (wq.drew.alloc (.cells #[.int .i64 at_, .slice a1 old.length c1, .slice a2 new.length c2] 55)) wq.heap.size ⟨at_, a1, c1, old, a2, c2, new⟩ := HunkAt.new_ wq.drew ⟨at_, a1, c1, old, a2, c2, new⟩
          have hbw := HBq.out.trans (hdr.mono HBq.out.size)
          have hmay : mayB [⟨at_, a1, c1, old, a2, c2, new⟩] = true := by first | exact hm6 | exact hm6 trivial | exact hm6 rfl
          obtain ⟨la, hla⟩ : ∃ l, fs[k].ls = l := ⟨_, rfl⟩
          rw [hla] at hfw hf2000 hokls hokr d2 hd
          have CAP := refapply_any fs[k].a (some ⟨wq.heap.size, 0, none⟩) la [⟨at_, a1, c1, old, a2, c2, new⟩] fs[k].c 1 (wq.drew.alloc (.cells #[.int .i64 at_, .slice a1 old.length c1, .slice a2 new.length c2] 55)) (hokls.on hdr) hokr (hks_one hH (HO.out.h.on hbw)) hmay (by show la.length + sumNew [_] ≤ _; simp [sumNew, Hm.plain]; omega) ⟨by simp, fun h hh => by rw [List.mem_singleton] at hh; subst hh; exact ⟨by show old.length ≤ _; omega, by show new.length ≤ _; omega⟩⟩
          unfold Appl at CAP
          rw [refApp_one] at CAP
          simp only [standB, List.all_cons, List.all_nil, Bool.and_true] at CAP
          have CAPH := Lib.hid CAP
          have HLW := Lib.hid (putL_wide (k := at_.toNat) (old := old) hfw (by omega) HLN.out)
          obtain ⟨sb, hsb⟩ : ∃ s, atB la old at_ = s := ⟨_, rfl⟩
          rw [hsb] at hd CAPH
          have HDD := Lib.hid hd
          clear hdr hH hbw hmay CAP hd hokls hokr hla hfw hsb
          generalize fs[k].a = fa at *
          generalize fs[k].c = fc at *
          go_wp2_with fail
          go_region_held3 (fun w' => w'.cell? ⟨b, off + k * 3 + 2, none⟩ = some (.slice fa la.length fc) ∧ w'.cell? ⟨w.heap.size, 3, none⟩ = some (.int .i64 at_) ∧ w'.cell? ⟨w.heap.size, 4, none⟩ = some (.slice a1 old.length c1) ∧ w'.cell? ⟨w.heap.size, 5, none⟩ = some (.slice a2 new.length c2)) (first | exact ⟨d2, b3, b4, b5⟩ | exact ⟨cell_on d2 HDR.out, cell_on b3 HDR.out, cell_on b4 HDR.out, cell_on b5 HDR.out⟩ | exact ⟨cell_on (cell_on d2 HDR.out) hb7, cell_on (cell_on b3 HDR.out) hb7, cell_on (cell_on b4 HDR.out) hb7, cell_on (cell_on b5 HDR.out) hb7⟩ | (go_keep; done)) (first
            | (go_at_call 35; refine CAPH.out.mono ?_; rintro e w7 ⟨A7, k7, l7, dv, rfl, hl7, hr7, hs7, hb7⟩))
          obtain ⟨rfl, hl1, hl2⟩ := hl7
          have HB7 := Lib.hid (HBq.out.trans ((HDR.out.trans (hb7.mono HDR.out.size)).mono HBq.out.size))
          have HS7 := Lib.hid hs7
          have HR7 := Lib.hid hr7
          have HL1 := Lib.hid hl1
          clear hb7 hs7 hr7 hl1 hl2 CAPH HDR d0 d1 d2
          have b1 := (HP.out.on HB7.out).k1
          cases dv
          · have hd := HDD.out
            rw [if_neg (by simp)] at hd
            obtain ⟨rfl, rfl⟩ := Prod.mk.inj hd
            go_wp2
            go_ret2
            exact HE.out _ (by simp) HB7.out
          · have hd := HDD.out
            rw [if_pos rfl] at hd
            have hl7 := HL1.out rfl
            subst hl7
            have CDk := Lib.hid (CD.out 1 ⟨#[]⟩ A7 k7 _ HLW.out (by decide) hd w7 HB7.out HS7.out HR7.out)
            clear CD hd
            go_wp2_with fail
            refine CDk.out.mono ?_
            rintro e w8 ⟨A5, k5, g5, rfl, hg, hb⟩
            have HF : Hid (ApLeft w er res (.returned (.tuple #[.slice A5 g5.length k5, .int .i64 er])) w8) := ⟨A5, k5, g5, rfl, hg, HA.out.trans ((HB7.out.trans (hb.mono HB7.out.size)).mono HA.out.size)⟩
            clear hb hg CDk
            go_wp2
            go_ret2
            exact HF.out
        · rw [hfdv] at d1 hd
          rw [if_pos (by simp)] at hd
          obtain ⟨rfl, rfl⟩ := Prod.mk.inj hd
          go_wp2_with fail
          have CFk := CF.out w1 HB1.out
          rw [hz] at CFk
          refine (CFk).mono ?_
          rintro e wx ⟨rfl, hwx⟩
          replace hwx := hwx.symm
          subst hwx
          clear CFk
          go_wp2_with fail
          go_quiet (fail)
          have hbd := below_drewN (Below.refl w1.heap.size w1) nq
          have d0q := cell_on d0 hbd
          have d1q := cell_on d1 hbd
          have d2q := cell_on d2 hbd
          have HBq := Lib.hid (HB1.out.trans (hbd.mono HB1.out.size))
          clear d0 d1 d2 b0 b1 b2 b3 b4 b5 hbd HB1
          generalize w1.drewN nq = wq at *
          have d0 := d0q
          have d1 := d1q
          have d2 := d2q
          clear d0q d1q d2q
          have b0 := (HP.out.on HBq.out).k0
          have b1 := (HP.out.on HBq.out).k1
          have b2 := (HP.out.on HBq.out).k2
          have b3 := (HP.out.on HBq.out).k3
          have b4 := (HP.out.on HBq.out).k4
          have b5 := (HP.out.on HBq.out).k5
          go_wp2
          go_ret2
          exact HE.out _ (by simp) HBq.out
      · have hfd := find_keyN hnf
        rw [hfd] at hd
        simp only [] at hd
        obtain ⟨rfl, rfl⟩ := Prod.mk.inj hd
        go_wp2_with fail
        have CFk := CF.out w1 HB1.out
        rw [hz] at CFk
        refine (CFk).mono ?_
        rintro e wx ⟨rfl, hwx⟩
        replace hwx := hwx.symm
        subst hwx
        clear CFk
        go_wp2
        go_ret2
        exact HE.out _ (by simp) HB1.out
  · have hb1 : (ck == 0) = false := by simpa using hc0
    have hb2 : (ck != 0) = true := by simpa using hc0
    rw [if_pos hc0] at hd
    obtain ⟨rfl, rfl⟩ := Prod.mk.inj hd
    clear CD CF
    refine CK.out.mono ?_
    rintro e w1 ⟨rfl, hb⟩
    have HB1 := Lib.hid hb
    clear hb b0 b1 b2 b3 b4 b5
    have b0 := (HP.out.on HB1.out).k0
    have b1 := (HP.out.on HB1.out).k1
    have b2 := (HP.out.on HB1.out).k2
    have b3 := (HP.out.on HB1.out).k3
    have b4 := (HP.out.on HB1.out).k4
    have b5 := (HP.out.on HB1.out).k5
    go_wp2
    go_ret2
    exact HE.out _ (by simp) HB1.out
end Go.Proofs.YtaepfahpbnpeiaaGreatDoor
