/- Package tree's Of. The statements' Light of files (layer 6). What the laws of trees hold: trees in cells, files that are not far too long. -/
import Derived.BigQuiet
import Derived.Deep.QuietTactic
import Derived.Handy
import Derived.Deep.RegionLaw
import Derived.Test.YtalabahjfmcnbaaGreatDoorCk48
import Derived.Test.YtalabahjfmcnbaaGreatDoorCk53
namespace Go.Proofs.YtalabahjfmcnbaaGreatDoor
open Go.RowKit
set_option linter.unusedVariables false


/-- What Of leaves: the tree of the files in order, or what is wrong with one of them. -/
def OfLeft (w : World) (fs : List Fm) (e : Ending) (w' : World) : Prop := ∃ (er : Int) (ks : List PF), ks.Perm (fkeys fs) ∧ WeakK ks ∧ OfE ks er ∧ TreeLeft TrC w er ks e w'
set_option maxHeartbeats 8000000 in
set_option maxRecDepth 100000 in
theorem of_any (A : Option Addr) (fs : List Fm) (cap : Nat) (w : World) (hs : Fs w w.heap.size A fs) (hn : fs.length ≤ 400) (hz : ∀ f ∈ fs, f.p.size ≤ 100000) (hwd : ∀ f ∈ fs, WideK f.ls) (hTb : Tabs w) :
    Calls Tryz.prog 16 #[.slice A fs.length cap] w (OfLeft w fs) := by
  have hal : Below w.heap.size w (w.alloc (.cells #[.slice none 0 0] 43)) := (Below.refl _ _).alloc (Nat.le_refl _) _
  have HS := Lib.hid (hs.on hal)
  have HR : Hid (TAt (w.alloc (.cells #[.slice none 0 0] 43)) w.heap.size none 0 0) := TAt.new_ w none 0 0
  have HA := Lib.hid hal
  have HTB := Lib.hid (Tabs.on hTb hal)
  have CC := Lib.hid (copies_any A fs cap (w.alloc (.cells #[.slice none 0 0] 43)) HS.out (by omega) (fun f hf => Nat.le_trans (hwd f hf).1 (by decide)))
  have HZ := Lib.hid hz
  have HWD := Lib.hid hwd
  have q5 : ¬ ((500 : Int) < (fs.length : Int)) := by omega
  clear hal hs hTb hz hwd
  go_enter Tryz.func16, Tryz.ntmps16
  go_wp2_with fail
  generalize (w.alloc (.cells #[.slice none 0 0] 43)) = wa at *
  refine CC.out.mono ?_
  rintro e w1 ⟨A1, n1, c1, rfl, HM⟩
  clear CC
  obtain ⟨gs, ho, hsep, hkeys⟩ := HM.out.h
  have hlen : gs.length = fs.length := by rw [← fkeys_len, hkeys, fkeys_len]
  have hprop : ∀ f ∈ gs, f.p.size ≤ 100000 ∧ WideK f.ls := fun f hf => by
    have hk : f.key ∈ fkeys fs := by rw [← hkeys]; exact List.mem_map.2 ⟨f, hf, rfl⟩
    obtain ⟨x, hx, hxe⟩ := List.mem_map.1 hk
    have e1 : x.p = f.p := bytes_inj (congrArg (fun k : PF => k.1) hxe)
    have e2 : x.ls = f.ls := congrArg (fun k : PF => k.2.2) hxe
    exact ⟨by rw [← e1]; exact HZ.out x hx, by rw [← e2]; exact HWD.out x hx⟩
  have HPR := Lib.hid hprop
  have HKEY := Lib.hid hkeys
  have HSEP := Lib.hid hsep
  have HB1 := Lib.hid HM.out.b
  clear hprop hkeys hsep HM
  rcases own_row_cases ho with ⟨e0, e1⟩ | ⟨g, cap1, e0, hgB, hrow⟩
  · simp only [Value.slice.injEq] at e0
    obtain ⟨rfl, rfl, rfl⟩ := e0
    subst e1
    have hf0 : fs = [] := List.length_eq_zero_iff.1 (by simpa using hlen.symm)
    subst hf0
    clear ho hlen
    have CN := Lib.hid (sortf_nil none 0 (.func (.func 33) #[] #[]) w1)
    go_wp2_with fail
    refine CN.out.mono ?_
    rintro e w2 ⟨rfl, hw2⟩
    have hw2 := hw2.symm
    subst hw2
    clear CN
    have hR1 := HR.out.on HB1.out
    have x0 := hR1.c0
    have x1 := hR1.fz 0
    have HTL : Hid (OfLeft w [] (.returned (.tuple #[.agg #[.slice none 0 0], .int .i64 0])) (w1.setCell ⟨w.heap.size, 0, none⟩ (.slice none 0 0))) :=
      ⟨0, [], List.Perm.refl _, fun i j hi => absurd hi (by simp), .inl ⟨rfl, fun i hi => absurd hi (by simp)⟩, left_ok (TrC.zero _) hR1 (HA.out.trans (HB1.out.mono HA.out.size)) (Nat.le_refl _)⟩
    have HRS := Lib.hid (hR1.set none 0 0)
    clear hR1
    go_wp2
    go_loopw [17] (fun i wr => i = .int .i64 0 ∧ wr = w1) (fun _ _ => 0)
    case atStart => exact ⟨rfl, rfl⟩
    case round =>
      obtain ⟨rfl, hwr⟩ := hrel
      have hwr := hwr.symm
      subst hwr
      go_wp2
      (try simp only [Exit.inBlock, Exit.then])
      refine bodyPost_ret (ret_tree2 rfl _ _ _ none 0 0 _ rfl rfl HRS.out) rfl ?_
      exact HTL.out
  · simp only [Value.slice.injEq] at e0
    obtain ⟨rfl, rfl, rfl⟩ := e0
    clear ho
    have hgn : gs.length ≤ 400 := by omega
    clear hlen
    have CS := Lib.hid (sortf_any g c1 gs w1 hrow (fun f hf => (HPR.out f hf).1) (by omega))
    have HROW := Lib.hid hrow
    have HGB := Lib.hid hgB
    clear hrow hgB
    go_wp2_with fail
    refine CS.out.mono ?_
    rintro e w2 ⟨rfl, hs, hperm, hweak, hrow2, hgrow⟩
    have hsl : hs.length = gs.length := hperm.length_eq
    obtain ⟨cur, hc1, hcu1, hcu2⟩ := HROW.out.h
    have hbb := Below.grown (Below.refl wa.heap.size w1) hgrow HB1.out.size (fun k hk => by simp only [Option.some.injEq] at hk; have := HGB.out; omega)
    have HB2 := Lib.hid (HB1.out.trans hbb)
    have hsp2 : ∀ f ∈ hs, f.Sep w2 := fun f hf => (HSEP.out f (hperm.mem_iff.1 hf)).grown hc1 (by decide) hgrow
    have hfs2 : Fs w2 w2.heap.size (some ⟨g, 0, none⟩) hs := ⟨fun _ => ⟨g, 0, rfl, hrow2.lt, fun j hj => by
      obtain ⟨h1, h2, h3⟩ := hrow2.get hj
      rw [Nat.zero_add]
      exact ⟨h1, h2, h3⟩⟩, fun f hf => (hsp2 f hf).1⟩
    have HF2 := Lib.hid hfs2
    have HPR2 : Hid (∀ f ∈ hs, f.p.size ≤ 100000 ∧ WideK f.ls) := fun f hf => HPR.out f (hperm.mem_iff.1 hf)
    have HPM : Hid ((fkeys hs).Perm (fkeys fs)) := by show List.Perm _ _; rw [← HKEY.out]; exact perm_keys hperm
    have HWK := Lib.hid hweak
    have hcap2 := hrow2.len
    have HRM : Hid (Room (some (⟨g, 0, none⟩ : Addr)) hs.length c1) := ⟨fun e => (by cases e), hcap2⟩
    have HTB2 := Lib.hid (Tabs.on HTB.out HB2.out)
    have hR2 := HR.out.on HB2.out
    have HR2 := Lib.hid hR2
    have hnl : hs.length ≤ 400 := by omega
    rw [← hsl] at *
    clear hperm hweak hrow2 hgrow hc1 hcu1 hcu2 cur hbb hsp2 hfs2 hR2 CS HSEP HPR HROW HKEY hsl
    go_wp2_with fail
    go_loopw [17] (fun s17 wr => ∃ k : Nat, k ≤ hs.length ∧ s17 = .int .i64 (k : Int) ∧ Hid (∀ i, i < k → chkK (fkeys hs) i = 0) ∧ Hid (Below w2.heap.size w2 wr)) (fun s17 _ => hs.length - (intOf s17).toNat)
    case atStart => exact ⟨0, Nat.zero_le _, rfl, fun i h => absurd h (by omega), Below.refl _ _⟩
    case round =>
      obtain ⟨k, hk, rfl, hall, hb⟩ := hrel
      have HBW := Lib.hid (HA.out.trans ((HB2.out.trans (hb.out.mono HB2.out.size)).mono HA.out.size))
      have hR3 := HR2.out.on hb.out
      have x0 := hR3.c0
      have x1 := hR3.fz 0
      by_cases hlt : k < hs.length
      · have s1 : ∀ W, (Instr.slice 38 (.slice (some ⟨g, 0, none⟩) hs.length c1) none (some (.int .i64 (k : Int))) none).run Tryz.prog W = .ok (.slice (some ⟨g, 0, none⟩) k c1) W := fun W => by
          have h := run_slice_files (some ⟨g, 0, none⟩) hs.length c1 0 k none (some (.int .i64 (k : Int))) W (by omega) (by omega) hcap2 (.inr ⟨rfl, rfl⟩) (.inl rfl)
          rw [if_neg (by omega), Option.map_some, addr_add] at h
          simpa using h
        have s2 : ∀ W, (Instr.slice 38 (.slice (some ⟨g, 0, none⟩) hs.length c1) (some (.int .i64 (k : Int))) none none).run Tryz.prog W = .ok (.slice (some ⟨g, k * 3, none⟩) (hs.length - k) (c1 - k)) W := fun W => by
          have h := run_slice_files (some ⟨g, 0, none⟩) hs.length c1 k hs.length (some (.int .i64 (k : Int))) none W (by omega) (Nat.le_refl _) hcap2 (.inl rfl) (.inr ⟨rfl, rfl⟩)
          rw [if_neg (by omega), Option.map_some, addr_add, Nat.zero_add] at h
          exact h
        obtain ⟨r, hr⟩ : ∃ r, chkK (fkeys hs) k = r := ⟨_, rfl⟩
        have hr2 := hr
        rw [chkK_at (by rw [fkeys_len]; exact hlt), fkeys_get] at hr2
        have CK := Lib.hid (fun W (hbW : Below w2.heap.size w2 W) => by
          have hF := HF2.out.on hbW
          have h := tcheck_any (some ⟨g, 0, none⟩) (hs.take k) c1 (some ⟨g, k * 3, none⟩) hs[k] (hs.drop (k + 1)) (hs.length - k) (c1 - k) (by rw [List.length_drop]; omega) W
            ⟨fun hp => ⟨g, 0, rfl, (by obtain ⟨b, off, e, hl, _⟩ := hF.at_ (by omega); simp only [Option.some.injEq, Addr.mk.injEq] at e; obtain ⟨rfl, _⟩ := e; exact hl), fun j hj => by
              rw [List.length_take] at hj
              obtain ⟨b, off, e, _, h1, h2, h3⟩ := hF.get (j := j) (by omega)
              simp only [Option.some.injEq, Addr.mk.injEq, and_true] at e
              obtain ⟨rfl, rfl⟩ := e
              rw [List.getElem_take]
              exact ⟨h1, h2, h3⟩⟩, fun f hf => hF.ok f (List.mem_of_mem_take hf)⟩
            ⟨fun hp => ⟨g, k * 3, rfl, (by obtain ⟨b, off, e, hl, _⟩ := hF.at_ (by omega); simp only [Option.some.injEq, Addr.mk.injEq] at e; obtain ⟨rfl, _⟩ := e; exact hl), fun j hj => by
              have hjk : k + j < hs.length := by
                rw [← List.drop_eq_getElem_cons hlt, List.length_drop] at hj
                omega
              obtain ⟨b, off, e, _, h1, h2, h3⟩ := hF.get (j := k + j) hjk
              simp only [Option.some.injEq, Addr.mk.injEq, and_true] at e
              obtain ⟨rfl, rfl⟩ := e
              have he : (hs[k] :: hs.drop (k + 1))[j] = hs[k + j] := by
                simp only [← List.drop_eq_getElem_cons hlt, List.getElem_drop]
              rw [he, show k * 3 + j * 3 = 0 + (k + j) * 3 by omega]
              exact ⟨h1, h2, h3⟩⟩, fun f hf => hF.ok f (by rw [← List.drop_eq_getElem_cons hlt] at hf; exact List.mem_of_mem_drop hf)⟩
            (by rw [List.length_take]; omega) (by rw [List.length_drop]; omega) (HPR2.out _ (List.getElem_mem _)).1 (HPR2.out _ (List.getElem_mem _)).2 (Tabs.on HTB2.out hbW) r (by
              have e1 : fkeys (hs.take k) = (fkeys hs).take k := by unfold fkeys; rw [List.map_take]
              have e2 : fkeys (hs.drop (k + 1)) = (fkeys hs).drop (k + 1) := by unfold fkeys; rw [List.map_drop]
              rw [e1, e2]
              exact hr2)
          rw [show (hs.take k).length = k by rw [List.length_take]; omega] at h
          exact h)
        have HRR := Lib.hid hr
        have hdr : Below wr.heap.size wr wr.drew := (Below.refl _ _).drew
        have C1 := Lib.hid (CK.out wr.drew (hb.out.trans (hdr.mono hb.out.size)))
        have HKL : Hid (k < (fkeys hs).length) := by show _ < _; rw [fkeys_len]; exact hlt
        clear hr hr2 CK hdr hR3 x0 x1
        go_wp2_with fail
        go_region_held3 (fun _ => True) (first | trivial) (first
          | (go_at_call 34; refine C1.out.mono ?_; rintro e w4 ⟨rfl, hb4⟩))
        have HB4 := Lib.hid (hb.out.trans ((below_dr hb4).mono hb.out.size))
        clear hb4 C1
        have hR3 := HR2.out.on HB4.out
        have x0 := hR3.c0
        have x1 := hR3.fz 0
        by_cases hr0 : r = 0
        · subst hr0
          have HN : Hid (∀ i, i < k + 1 → chkK (fkeys hs) i = 0) := fun i hi => by
            by_cases e : i = k
            · rw [e]; exact HRR.out
            · exact hall.out i (by omega)
          clear hR3 x0 x1 HRR
          go_wp2
          go_roundw
          case rel => exact ⟨k + 1, by omega, by go_num, HN.out, HB4.out⟩
          case measure => simp [intOf]; omega
        · have hrb : (r == 0) = false := by simpa using hr0
          have hrb2 : (r != 0) = true := by simpa using hr0
          have HBX := Lib.hid (HA.out.trans ((HB2.out.trans (HB4.out.mono HB2.out.size)).mono HA.out.size))
          have HTL : Hid (OfLeft w fs (.returned (.tuple #[.agg #[.slice none 0 0], .int .i64 r])) (w4.setCell ⟨w.heap.size, 0, none⟩ (.slice none 0 0))) :=
            ⟨r, fkeys hs, HPM.out, HWK.out, .inr ⟨hr0, k, HKL.out, HRR.out⟩, left_err hr0 HBX.out (Nat.le_refl _)⟩
          have HRS := Lib.hid (hR3.set none 0 0)
          clear hR3
          go_wp2
          (try simp only [Exit.inBlock, Exit.then])
          refine bodyPost_ret (ret_tree2 rfl _ _ _ none 0 0 _ rfl rfl HRS.out) rfl ?_
          exact HTL.out
      · have hke : k = hs.length := by omega
        subst hke
        have htr : TrC wr (some ⟨g, 0, none⟩) hs.length c1 (fkeys hs) := tr_of ⟨HF2.out.on hb.out, HRM.out, .inr ⟨g, 0, rfl⟩⟩ rfl (well_of HWK.out fun i hi => hall.out i (by rw [fkeys_len] at hi; exact hi))
        have HTL : Hid (OfLeft w fs (.returned (.tuple #[.agg #[.slice (some ⟨g, 0, none⟩) hs.length c1], .int .i64 0])) (wr.setCell ⟨w.heap.size, 0, none⟩ (.slice (some ⟨g, 0, none⟩) hs.length c1))) :=
          ⟨0, fkeys hs, HPM.out, HWK.out, .inl ⟨rfl, fun i hi => hall.out i (by rw [fkeys_len] at hi; exact hi)⟩, left_ok htr hR3 HBW.out (Nat.le_refl _)⟩
        have HRS := Lib.hid (hR3.set (some ⟨g, 0, none⟩) hs.length c1)
        clear hR3 htr
        go_wp2
        (try simp only [Exit.inBlock, Exit.then])
        refine bodyPost_ret (ret_tree2 rfl _ _ _ (some ⟨g, 0, none⟩) hs.length c1 _ rfl rfl HRS.out) rfl ?_
        exact HTL.out
end Go.Proofs.YtalabahjfmcnbaaGreatDoor
namespace Go.Proofs.YtalabahjfmcnbaaGreatDoor
open Go.RowKit
set_option linter.unusedVariables false

def light6One (f : Fm) : Bool := decide (f.p.size ≤ 300) && light3B (toBs f.ls)
def light6B (l : List Fm) : Bool := l.all light6One && decide (l.length ≤ 40)
theorem light6_no {l : List Fm} {k : Nat} (hk : k < l.length) (h : light6One l[k] = false) : light6B l = false := by
  have : l.all light6One = false := by
    rw [List.all_eq_false]
    exact ⟨l[k], List.getElem_mem _, by rw [h]; simp⟩
  simp [light6B, this]
theorem light6_yes {l : List Fm} (h : ∀ j (hj : j < l.length), light6One l[j] = true) : light6B l = decide (l.length ≤ 40) := by
  have : l.all light6One = true := by
    rw [List.all_eq_true]
    intro s hs
    obtain ⟨j, hj, rfl⟩ := List.getElem_of_mem hs
    exact h j hj
  simp [light6B, this]
theorem light6_facts {l : List Fm} (h : light6B l = true) : l.length ≤ 40 ∧ ∀ x ∈ l, light6One x = true := by
  unfold light6B at h
  rw [Bool.and_eq_true, List.all_eq_true] at h
  exact ⟨by simpa using h.2, h.1⟩
set_option maxHeartbeats 4000000 in
set_option maxRecDepth 100000 in
theorem light6_any (A : Option Addr) (l : List Fm) (cap : Nat) (w : World) (hk : Fs w w.heap.size A l) (hn : l.length ≤ 9223372036854775807) (hm : ∀ f ∈ l, f.ls.length ≤ 9223372036854775807) :
    Calls Tryz.prog 15 #[.slice A l.length cap] w fun e w' => e = .returned (.bool (light6B l)) ∧ w = w' := by
  have HK := Lib.hid hk
  clear hk
  go_enter Tryz.func15, Tryz.ntmps15
  go_wp2
  go_loop [3] (fun i => ∃ k : Nat, k ≤ l.length ∧ i = .int .i64 (k : Int) ∧ Hid (∀ j (hj : j < l.length), j < k → light6One l[j] = true)) (fun i => l.length - (intOf i).toNat)
  case atStart => exact ⟨0, Nat.zero_le _, rfl, fun j _ h => absurd h (by omega)⟩
  case round =>
    obtain ⟨k, hk, rfl, hall⟩ := hrel
    by_cases hlt : k < l.length
    · obtain ⟨b, off, rfl, _, h1, h2, h3⟩ := HK.out.get hlt
      have ok := HK.out.ok l[k] (List.getElem_mem _)
      have c1 := light3_any l[k].a (toBs l[k].ls) l[k].c w ok.ls (by rw [toBs_len]; exact hm l[k] (List.getElem_mem _))
      rw [toBs_len] at c1
      have hno := Lib.hid (light6_no hlt)
      have hyes : Hid (light6One l[k] = true → ∀ j (hj : j < l.length), j < k + 1 → light6One l[j] = true) := by
        intro h j hj hjk
        by_cases he : j = k
        · subst he; exact h
        · exact hall.out j hj (by omega)
      have hone : Hid (light6One l[k] = (decide (l[k].p.size ≤ 300) && light3B (toBs l[k].ls))) := rfl
      generalize light3B (toBs l[k].ls) = d1 at *
      generalize l[k].p = p at *
      have C1 := Lib.hid c1
      clear c1 ok hall
      generalize l[k].ls.length = m1 at *
      by_cases hp : 300 < p.size
      · have hfin := Lib.hid (hno.out (by rw [hone.out, decide_eq_false (by omega)]; rfl))
        clear C1
        clear hno hyes hone
        go_wp2
        go_ret
        rw [hfin.out]
        exact ⟨rfl, rfl⟩
      · have hp2 : p.size ≤ 300 := by omega
        cases d1
        · have hfin := Lib.hid (hno.out (by rw [hone.out, Bool.and_false]))
          clear hno hyes hone
          go_wp2_with fail
          refine C1.out.mono ?_
          rintro e w' ⟨rfl, rfl⟩
          go_wp2
          go_ret
          rw [hfin.out]
          exact ⟨rfl, rfl⟩
        · have hnew := Lib.hid (hyes.out (by rw [hone.out, decide_eq_true hp2]; rfl))
          clear hno hyes hone
          go_wp2_with fail
          refine C1.out.mono ?_
          rintro e w' ⟨rfl, rfl⟩
          go_wp2
          go_round
          case rel => exact ⟨k + 1, by omega, by go_num, hnew⟩
          case measure => simp [intOf]; omega
    · have hk2 : k = l.length := by omega
      subst hk2
      have hy := Lib.hid (light6_yes (fun j hj => hall.out j hj hj))
      clear hall
      go_wp2
      go_ret
      rw [hy.out]
      exact ⟨by simp; omega, rfl⟩
end Go.Proofs.YtalabahjfmcnbaaGreatDoor
namespace Go.Proofs.YtalabahjfmcnbaaGreatDoor
open Go.RowKit
set_option linter.unusedVariables false

/-- A tree in a cell of its own. -/
def HeldT (w : World) (g : Nat) (B : Option Addr) (n c : Nat) (ks : List PF) : Prop := TrC w B n c ks ∧ TAt w g B n c
theorem HeldT.on {w w' : World} {g : Nat} {B : Option Addr} {n c : Nat} {ks : List PF} (h : HeldT w g B n c ks) (hb : Below w.heap.size w w') : HeldT w' g B n c ks := ⟨tree_c.on h.1 hb, h.2.on hb⟩
theorem tree_kept {w : World} {B : Option Addr} {n c : Nat} {ks : List PF} (h : TrC w B n c ks) : Below w.heap.size w (w.alloc (.cells #[.slice B n c] 43)) ∧ HeldT (w.alloc (.cells #[.slice B n c] 43)) w.heap.size B n c ks := by
  have hb : Below w.heap.size w (w.alloc (.cells #[.slice B n c] 43)) := (Below.refl _ _).alloc (Nat.le_refl _) _
  exact ⟨hb, tree_c.on h hb, TAt.new_ w B n c⟩
theorem light6_of {f : Fm} (h : light6One f = true) : f.p.size ≤ 300 ∧ LightK f.ls := by
  unfold light6One at h
  simp only [Bool.and_eq_true, decide_eq_true_eq] at h
  exact ⟨h.1, light3_facts h.2⟩
end Go.Proofs.YtalabahjfmcnbaaGreatDoor
