/- Package prim's leaver, create, change, Apply, over what package tree's calls do. -/
import Derived.BigQuiet
import Derived.Deep.QuietTactic
import Derived.Handy
import Derived.Deep.RegionLaw
import Derived.Test.YtalabahjfmcnbaaGreatDoorCk49
namespace Go.Proofs.YtalabahjfmcnbaaGreatDoor
open Go.RowKit
set_option linter.unusedVariables false

theorem pget_some {f : FuncId} {args : Array Value} {w : World} {k : PF} (h : Calls Tryz.prog f args w (FileLeft w (some k))) : Calls Tryz.prog f args w fun e w' => ∃ g : Fm, e = .returned (.tuple #[.agg #[.string g.p, .bool g.d, .slice g.a g.ls.length g.c], .bool true]) ∧ Hid (g.Ok w' w'.heap.size ∧ g.key = k) ∧ Below w.heap.size w w' :=
  h.mono fun e w' ⟨g, h1, h2, h3⟩ => ⟨g, h1, ⟨h2.out.1, h2.out.2 k rfl⟩, h3⟩
theorem pget_none {f : FuncId} {args : Array Value} {w : World} (h : Calls Tryz.prog f args w (FileLeft w none)) : Calls Tryz.prog f args w fun e w' => ∃ g : Fm, e = .returned (.tuple #[.agg #[.string g.p, .bool g.d, .slice g.a g.ls.length g.c], .bool false]) ∧ Hid (g.Ok w' w'.heap.size) ∧ Below w.heap.size w w' :=
  h.mono fun e w' ⟨g, h1, h2, h3⟩ => ⟨g, h1, h2.out.1, h3⟩
theorem left_no {Tr : World → Option Addr → Nat → Nat → List PF → Prop} (T : TreeC Tr) {w wk : World} {G : Nat} {er : Int} {res : List PF} (he : er ≠ 0) (hb : Below w.heap.size w wk) (hG : w.heap.size ≤ G) :
    TreeLeft Tr w er res (.returned (.tuple #[.agg #[.slice none 0 0], .int .i64 er])) (wk.setCell ⟨G, 0, none⟩ (.slice none 0 0)) :=
  ⟨none, 0, 0, rfl, ⟨fun h => absurd h he, fun _ => T.zero _⟩, below_set hb hG hb.size⟩
theorem left_pass {Tr : World → Option Addr → Nat → Nat → List PF → Prop} (T : TreeC Tr) {w wk : World} {G n c n2 c2 : Nat} {A A2 : Option Addr} {er : Int} {res : List PF} (ht : (er = 0 → Tr wk A n c res) ∧ (er ≠ 0 → Tr wk A n c [])) (hk : TAt wk G A2 n2 c2) (hb : Below w.heap.size w wk) (hG : w.heap.size ≤ G) :
    TreeLeft Tr w er res (.returned (.tuple #[.agg #[.slice A n c], .int .i64 er])) (wk.setCell ⟨G, 0, none⟩ (.slice A n c)) :=
  ⟨A, n, c, rfl, ⟨fun h => T.set (ht.1 h) hk (grown_cell _ _ _ _), fun h => T.set (ht.2 h) hk (grown_cell _ _ _ _)⟩, below_set hb hG hb.size⟩
theorem TreeLeft.at0 {Tr : World → Option Addr → Nat → Nat → List PF → Prop} {w : World} {er er2 : Int} {res res2 : List PF} {e : Ending} {w' : World} (h : TreeLeft Tr w er res e w') (he : er = er2) (hr : res = res2) : TreeLeft Tr w er2 res2 e w' := by subst he; subst hr; exact h

set_option maxRecDepth 100000 in
theorem leaver_any (kind : Int) (p q : ByteArray) (at_ : Int) (a1 : Option Addr) (n1 c1 : Nat) (a2 : Option Addr) (n2 c2 : Nat) (w : World) : Calls Tryz.prog 97 #[.agg #[.int .i64 kind, .string p, .string q, .int .i64 at_, .slice a1 n1 c1, .slice a2 n2 c2]] w fun e w' => e = .returned (.func (.func 138) #[] #[.pointer (some ⟨w.heap.size, 0, none⟩)]) ∧ w' = w.alloc (.cells #[.int .i64 kind, .string p, .string q, .int .i64 at_, .slice a1 n1 c1, .slice a2 n2 c2] 33) := by
  go_enter Tryz.func97, Tryz.ntmps97
  go_wp2
  go_ret
  exact ⟨rfl, rfl⟩
/-- Which lines a step leaves of what stands at its path; or what is wrong. -/
def leftE (kind at_ : Int) (d : Bool) (la old : List (List UInt8)) : Int := if d ≠ decide (kind = 2) then 11 else if kind = 6 then (if atB la old at_ = true then 0 else 13) else if la ≠ [] then 13 else 0
def leftL (kind at_ : Int) (la old new : List (List UInt8)) : List (List UInt8) := if kind = 6 then putL la at_.toNat old new else []
theorem refApp_one (la : List (List UInt8)) (h : Hm) : refApp la (plains [h]) = putL la h.at_.toNat h.old h.new := refApp_put la h.plain []
theorem applE_one {la : List (List UInt8)} {h : Hm} (hm : mayB [h] = true) : applE la [h] = if atB la h.old h.at_ = true then 0 else 13 := by
  unfold applE
  rw [if_pos hm]
  simp [standB]
/-- A file's cells in block X, plainly. -/
structure FlAt (w : World) (X : Nat) (p : ByteArray) (d : Bool) (a : Option Addr) (n c : Nat) : Prop where
  h : w.heap[X]? = some (.cells #[.string p, .bool d, .slice a n c] 62 (0, 0))
section
variable {w w' : World} {X : Nat} {p : ByteArray} {d : Bool} {a : Option Addr} {n c : Nat}
theorem FlAt.c0 (k : FlAt w X p d a n c) : w.cell? ⟨X, 0, none⟩ = some (.string p) := by simp [World.cell?, k.h]
theorem FlAt.c1 (k : FlAt w X p d a n c) : w.cell? ⟨X, 1, none⟩ = some (.bool d) := by simp [World.cell?, k.h]
theorem FlAt.c2 (k : FlAt w X p d a n c) : w.cell? ⟨X, 2, none⟩ = some (.slice a n c) := by simp [World.cell?, k.h]
theorem FlAt.lt (k : FlAt w X p d a n c) : X < w.heap.size := (Array.getElem?_eq_some_iff.1 k.h).1
theorem FlAt.on (k : FlAt w X p d a n c) (hb : Below w.heap.size w w') : FlAt w' X p d a n c := ⟨(hb.block X k.lt).trans k.h⟩
end
theorem FlAt.new_ (w : World) (p : ByteArray) (d : Bool) (a : Option Addr) (n c : Nat) : FlAt (w.alloc (.cells #[.string p, .bool d, .slice a n c] 62)) w.heap.size p d a n c := ⟨heap_alloc_new w _⟩

set_option maxHeartbeats 4000000 in
set_option maxRecDepth 100000 in
theorem leaver1_any (B : Nat) (kind : Int) (p q : ByteArray) (at_ : Int) (a1 : Option Addr) (c1 : Nat) (old : List (List UInt8)) (a2 : Option Addr) (c2 : Nat) (new : List (List UInt8)) (fp : ByteArray) (fd : Bool) (fa : Option Addr) (fc : Nat) (la : List (List UInt8)) (w : World)
    (hB : PAt w B kind p q at_ a1 old.length c1 a2 new.length c2) (hs : Strs w w.heap.size fa (toBs la)) (hr : Room fa la.length fc) (ok : Hm.Ok ⟨at_, a1, c1, old, a2, c2, new⟩ w w.heap.size) (hm : kind = 6 → mayB [⟨at_, a1, c1, old, a2, c2, new⟩] = true) (m0 : la.length ≤ 100000) (m1 : old.length ≤ 100000) (m2 : new.length ≤ 100000)
    (er : Int) (ls : List (List UInt8)) (he : leftE kind at_ fd la old = er) (hl : leftL kind at_ la old new = ls) :
    Calls Tryz.prog 138 #[.agg #[.string fp, .bool fd, .slice fa la.length fc], .pointer (some ⟨B, 0, none⟩)] w (Told w ls er) := by
  have hal : Below w.heap.size w (w.alloc (.cells #[.string fp, .bool fd, .slice fa la.length fc] 62)) := (Below.refl _ _).alloc (Nat.le_refl _) _
  have HX := Lib.hid (FlAt.new_ w fp fd fa la.length fc)
  have HP := Lib.hid (hB.on hal)
  have HS := Lib.hid (hs.on hal)
  have HO := Lib.hid (ok.on hal)
  have HA := Lib.hid hal
  have HR := Lib.hid hr
  have x1 := HX.out.c1
  have x2 := HX.out.c2
  have b0 := HP.out.k0
  have HN : Hid (∀ W, er ≠ 0 → Below w.heap.size w W → Told w ls er (.returned (.tuple #[.slice none 0 0, .int .i64 er])) W) := fun W h hb => told_none w W ls er h hb
  clear hal hB hs ok hr
  unfold leftE at he
  unfold leftL at hl
  by_cases k2 : kind = 2
  · subst k2
    cases fd
    · rw [if_pos (by decide)] at he
      subst he
      go_enter Tryz.func138, Tryz.ntmps138
      go_wp2
      go_ret2
      exact HN.out _ (by decide) HA.out
    · rw [if_neg (by decide), if_neg (by decide)] at he
      rw [if_neg (by decide)] at hl
      by_cases h0 : la = []
      · rw [if_neg (by simp [h0])] at he
        subst he
        subst hl
        have hlen0 : la.length = 0 := by rw [h0]; rfl
        clear h0 hm HN
        generalize la.length = mla at *
        subst hlen0
        go_enter Tryz.func138, Tryz.ntmps138
        go_wp2
        go_ret2
        exact ⟨none, 0, [], rfl, ⟨fun _ => rfl, fun _ => rfl⟩, ⟨fun _ => rfl, Nat.le_refl _⟩, fun h => absurd h (by simp [toBs]), HA.out⟩
      · have hpos : (0 : Int) < (la.length : Int) := by have := List.length_pos_iff.2 h0; omega
        rw [if_pos h0] at he
        subst he
        clear h0
        go_enter Tryz.func138, Tryz.ntmps138
        go_wp2
        go_ret2
        exact HN.out _ (by decide) HA.out
  · have k22 : (kind == 2) = false := by simpa using k2
    rw [decide_eq_false k2] at he
    cases fd
    · by_cases k6 : kind = 6
      · subst k6
        rw [if_neg (by simp), if_pos rfl] at he
        rw [if_pos rfl] at hl
        have b1 := HP.out.k1
        have b2 := HP.out.k2
        have b3 := HP.out.k3
        have b4 := HP.out.k4
        have b5 := HP.out.k5
        have hmay := hm rfl
        go_enter Tryz.func138, Tryz.ntmps138
        go_wp2_with fail
        generalize hwa : (w.alloc (.cells #[.string fp, .bool false, .slice fa la.length fc] 62)) = wa at *
        clear hwa
        have CH := Lib.hid (fun W => phunks_any 6 p q at_ a1 old.length c1 a2 new.length c2 W)
        have HBH : Hid (∀ W, Below wa.heap.size wa W → Below W.heap.size W ((W.alloc (.cells #[.int .i64 6, .string p, .string q, .int .i64 at_, .slice a1 old.length c1, .slice a2 new.length c2] 33)).alloc (.cells #[.int .i64 at_, .slice a1 old.length c1, .slice a2 new.length c2] 171))) := fun W _ => ((Below.refl _ _).alloc (Nat.le_refl _) _).alloc (by simp) _
        have CA := Lib.hid (fun W (hb : Below wa.heap.size wa W) => by
          have hB2 := HBH.out W hb
          have hH : HunkAt ((W.alloc (.cells #[.int .i64 6, .string p, .string q, .int .i64 at_, .slice a1 old.length c1, .slice a2 new.length c2] 33)).alloc (.cells #[.int .i64 at_, .slice a1 old.length c1, .slice a2 new.length c2] 171)) (W.heap.size + 1) ⟨at_, a1, c1, old, a2, c2, new⟩ := by
            have h := HunkAt.new_ (W.alloc (.cells #[.int .i64 6, .string p, .string q, .int .i64 at_, .slice a1 old.length c1, .slice a2 new.length c2] 33)) ⟨at_, a1, c1, old, a2, c2, new⟩
            rw [World.size_alloc] at h
            exact h
          have hbb := hb.trans (hB2.mono hb.size)
          exact apply_c fa (some ⟨W.heap.size + 1, 0, none⟩) la [⟨at_, a1, c1, old, a2, c2, new⟩] fc 1 _ (HS.out.on hbb) HR.out (hks_one hH (HO.out.on hbb)) ⟨fun h => (by cases h), Nat.le_refl _⟩ ⟨by simp, fun h hh => by rw [List.mem_singleton] at hh; subst hh; exact ⟨by show old.length ≤ _; omega, by show new.length ≤ _; omega⟩⟩ (by simp) (by show la.length + sumNew [_] ≤ _; simp [sumNew, Hm.plain]; omega))
        rw [refApp_one, applE_one hmay] at CA
        simp only [] at CA
        rw [he, hl] at CA
        have hdr : Below wa.heap.size wa wa.drew := (Below.refl _ _).drew
        have CA2 := Lib.hid (CA.out wa.drew hdr)
        have HB2 := Lib.hid (hdr.trans ((HBH.out _ hdr).mono hdr.size))
        clear CA he hl hm hmay
        go_region_held3 (fun w' => w'.cell? ⟨w.heap.size, 2, none⟩ = some (.slice fa la.length fc) ∧ w'.cell? ⟨B, 0, none⟩ = some (.int .i64 6) ∧ w'.cell? ⟨B, 1, none⟩ = some (.string p) ∧ w'.cell? ⟨B, 2, none⟩ = some (.string q) ∧ w'.cell? ⟨B, 3, none⟩ = some (.int .i64 at_) ∧ w'.cell? ⟨B, 4, none⟩ = some (.slice a1 old.length c1) ∧ w'.cell? ⟨B, 5, none⟩ = some (.slice a2 new.length c2)) (first | exact ⟨x2, b0, b1, b2, b3, b4, b5⟩ | exact ⟨cell_on x2 HB2.out, cell_on b0 HB2.out, cell_on b1 HB2.out, cell_on b2 HB2.out, cell_on b3 HB2.out, cell_on b4 HB2.out, cell_on b5 HB2.out⟩ | exact ⟨cell_on (cell_on x2 HB2.out) hb7, cell_on (cell_on b0 HB2.out) hb7, cell_on (cell_on b1 HB2.out) hb7, cell_on (cell_on b2 HB2.out) hb7, cell_on (cell_on b3 HB2.out) hb7, cell_on (cell_on b4 HB2.out) hb7, cell_on (cell_on b5 HB2.out) hb7⟩ | (go_keep; done)) (first
          | (go_at_call 133; refine (CH.out _).mono ?_; rintro e w6 ⟨rfl, rfl⟩)
          | (go_at_call 139; refine CA2.out.mono ?_; rintro e w7 ⟨A7, k7, l7, rfl, hl7, hr7, hs7, hb7⟩))
        have HF : Hid (Told w ls er (.returned (.tuple #[.slice A7 l7.length k7, .int .i64 er])) w7) := ⟨A7, k7, l7, rfl, hl7, hr7, hs7, HA.out.trans ((HB2.out.trans (hb7.mono HB2.out.size)).mono HA.out.size)⟩
        clear hl7 hr7 hs7 hb7 CA2 CH HBH HB2
        go_wp2
        go_ret2
        exact HF.out
      · have k62 : (kind == 6) = false := by simpa using k6
        rw [if_neg (by decide), if_neg k6] at he
        rw [if_neg k6] at hl
        by_cases h0 : la = []
        · rw [if_neg (by simp [h0])] at he
          subst he
          subst hl
          have hlen0 : la.length = 0 := by rw [h0]; rfl
          clear h0 hm HN
          generalize la.length = mla at *
          subst hlen0
          go_enter Tryz.func138, Tryz.ntmps138
          go_wp2
          go_ret2
          exact ⟨none, 0, [], rfl, ⟨fun _ => rfl, fun _ => rfl⟩, ⟨fun _ => rfl, Nat.le_refl _⟩, fun h => absurd h (by simp [toBs]), HA.out⟩
        · have hpos : (0 : Int) < (la.length : Int) := by have := List.length_pos_iff.2 h0; omega
          rw [if_pos h0] at he
          subst he
          clear h0
          go_enter Tryz.func138, Tryz.ntmps138
          go_wp2
          go_ret2
          exact HN.out _ (by decide) HA.out
    · rw [if_pos (by decide)] at he
      subst he
      go_enter Tryz.func138, Tryz.ntmps138
      go_wp2
      go_ret2
      exact HN.out _ (by decide) HA.out
set_option maxHeartbeats 4000000 in
set_option maxRecDepth 100000 in
theorem create_any {Tr : World → Option Addr → Nat → Nat → List PF → Prop} (T : TreeC Tr) (B : Option Addr) (n c : Nat) (ks : List PF) (p : ByteArray) (er : Int) (res : List PF) (w : World) (h : Tr w B n c ks) (hk : ks.length ≤ 400) (hp : p.size ≤ 1000) (hTb : Tabs w)
    (hd : (if (ks.find? fun k => decide (k.1 = p.data.toList)).isSome = true then ((10 : Int), ([] : List PF)) else doK ks 1 p.data.toList [] [] 0) = (er, res)) :
    Calls Tryz.prog 57 #[.agg #[.slice B n c], .string p] w (TreeLeft Tr w er res) := by
  have hal : Below w.heap.size w ((w.alloc (.cells #[.slice B n c] 43)).alloc (.cells #[.slice none 0 0] 43)) := ((Below.refl _ _).alloc (Nat.le_refl _) _).alloc (by simp) _
  have HTR := Lib.hid (T.on h hal)
  have HT : Hid (TAt ((w.alloc (.cells #[.slice B n c] 43)).alloc (.cells #[.slice none 0 0] 43)) w.heap.size B n c) := (TAt.new_ w B n c).on ((Below.refl _ _).alloc (Nat.le_refl _) _)
  have HR : Hid (TAt ((w.alloc (.cells #[.slice B n c] 43)).alloc (.cells #[.slice none 0 0] 43)) (w.heap.size + 1) none 0 0) := by
    have h := TAt.new_ (w.alloc (.cells #[.slice B n c] 43)) none 0 0
    exact (by simpa using h : TAt _ (w.heap.size + 1) none 0 0)
  have HTB := Lib.hid (Tabs.on hTb hal)
  have HA := Lib.hid hal
  have t0 := HT.out.c0
  clear hal h hTb
  have CG0 := fun W hs => T.get B n c ks p W hs hk hp
  have CW := Lib.hid (fun W hs hb => T.write B n c ks p none [] 0 er res W hs hk hp Strs.none_ ⟨fun _ => rfl, Nat.le_refl _⟩ ⟨by simp, by simp⟩ hb)
  generalize (ks.find? fun k => decide (k.1 = p.data.toList)) = o at *
  cases o with
  | some f =>
    simp only [Option.isSome_some, if_true] at hd
    obtain ⟨e1, e2⟩ := Prod.mk.inj hd
    subst e1
    have CG := Lib.hid (fun W hs => pget_some (CG0 W hs))
    clear CG0 CW hd
    go_enter Tryz.func57, Tryz.ntmps57
    go_wp2_with fail
    generalize ((w.alloc (.cells #[.slice B n c] 43)).alloc (.cells #[.slice none 0 0] 43)) = wa at *
    refine (CG.out wa HTR.out).mono ?_
    rintro e w2 ⟨f2, rfl, hf, hb⟩
    have hal3 : Below w2.heap.size w2 (w2.alloc (.cells #[.string f2.p, .bool f2.d, .slice f2.a f2.ls.length f2.c] 62)) := (Below.refl _ _).alloc (Nat.le_refl _) _
    have HB2 := Lib.hid (hb.trans (hal3.mono hb.size))
    clear hb hal3 hf CG
    have hR5 := HR.out.on HB2.out
    have x0 := hR5.c0
    have x1 := hR5.fz 0
    have HF := Lib.hid (left_no T (w := w) (G := w.heap.size + 1) (res := res) (by decide : (10 : Int) ≠ 0) (HA.out.trans (HB2.out.mono HA.out.size)) (by omega))
    have HRS := Lib.hid (hR5.set none 0 0)
    clear hR5
    go_wp2
    (try simp only [Exit.inBlock, Exit.then])
    refine bodyPost_ret (ret_tree2 rfl _ _ _ none 0 0 _ rfl rfl HRS.out) rfl ?_
    exact HF.out
  | none =>
    simp only [Option.isSome_none, Bool.false_eq_true, if_false] at hd
    have CG := Lib.hid (fun W hs => pget_none (CG0 W hs))
    have HD := Lib.hid hd
    clear CG0 hd
    go_enter Tryz.func57, Tryz.ntmps57
    go_wp2_with fail
    generalize ((w.alloc (.cells #[.slice B n c] 43)).alloc (.cells #[.slice none 0 0] 43)) = wa at *
    refine (CG.out wa HTR.out).mono ?_
    rintro e w2 ⟨f2, rfl, hf, hb⟩
    have hal3 : Below w2.heap.size w2 (w2.alloc (.cells #[.string f2.p, .bool f2.d, .slice f2.a f2.ls.length f2.c] 62)) := (Below.refl _ _).alloc (Nat.le_refl _) _
    have HB2 := Lib.hid (hb.trans (hal3.mono hb.size))
    have C2 := Lib.hid (CW.out (w2.alloc (.cells #[.string f2.p, .bool f2.d, .slice f2.a f2.ls.length f2.c] 62)) (T.on HTR.out HB2.out) (Tabs.on HTB.out HB2.out) HD.out)
    clear t0 hb hal3 hf CG CW
    have t0 := (HT.out.on HB2.out).c0
    go_wp2_with fail
    refine C2.out.mono ?_
    rintro e w5 ⟨A5, n5, c5, rfl, ht, hb⟩
    have hR5 := (HR.out.on HB2.out).on hb
    have x0 := hR5.c0
    have x1 := hR5.fz 0
    have HF := Lib.hid (left_pass T (w := w) ht.out hR5 (HA.out.trans ((HB2.out.trans (hb.mono HB2.out.size)).mono HA.out.size)) (by omega))
    have HRS := Lib.hid (hR5.set A5 n5 c5)
    clear ht hb hR5
    go_wp2
    (try simp only [Exit.inBlock, Exit.then])
    refine bodyPost_ret (ret_tree2 rfl _ _ _ A5 n5 c5 _ rfl rfl HRS.out) rfl ?_
    exact HF.out
/-- What a step that ends or turns something answers. -/
def chP (ks : List PF) (kind at_ : Int) (p : List UInt8) (old new : List (List UInt8)) : Int × List PF :=
  match ks.find? fun k => decide (k.1 = p) with
  | none => (9, [])
  | some f => if leftE kind at_ f.2.1 f.2.2 old ≠ 0 then (leftE kind at_ f.2.1 f.2.2 old, [])
    else if kind = 6 then doK ks 1 p [] (leftL kind at_ f.2.2 old new) (checkN (toBs (leftL kind at_ f.2.2 old new))) else doK ks 2 p [] [] 0
theorem putL_wide {la old new : List (List UInt8)} {k : Nat} (h : WideK la) (h1 : la.length ≤ 3000) (g : MidK new) : WideK (putL la k old new) := by
  unfold putL
  refine ⟨?_, fun x hx => ?_⟩
  · have := g.1
    simp only [List.length_append, List.length_take, List.length_drop]
    omega
  · rw [List.mem_append, List.mem_append] at hx
    rcases hx with (hx | hx) | hx
    · exact h.2 x (List.mem_of_mem_take hx)
    · exact Nat.le_trans (g.2 x hx) (by decide)
    · exact h.2 x (List.mem_of_mem_drop hx)
theorem lineB_len {x : List UInt8} (h : lineB (toB x) = true) : x.length ≤ 200 := by
  unfold lineB at h
  rw [Bool.and_eq_true, decide_eq_true_eq] at h
  have := h.1
  rw [toB_size] at this
  exact this
theorem check_wide {ls : List (List UInt8)} (h : checkN (toBs ls) = 0) : WideK ls ∧ ls.length ≤ 2000 := by
  obtain ⟨h1, h2⟩ := check_iff.1 h
  refine ⟨⟨by omega, fun x hx => ?_⟩, h1⟩
  have := lineB_len (h2 x hx)
  omega
set_option maxHeartbeats 8000000 in
set_option maxRecDepth 100000 in
theorem change_any {Tr : World → Option Addr → Nat → Nat → List PF → Prop} (T : TreeC Tr) (B : Option Addr) (n c : Nat) (ks : List PF) (kind : Int) (p q : ByteArray) (at_ : Int) (a1 : Option Addr) (c1 : Nat) (old : List (List UInt8)) (a2 : Option Addr) (c2 : Nat) (new : List (List UInt8)) (er : Int) (res : List PF) (w : World) (h : Tr w B n c ks) (hk : ks.length ≤ 400) (hw : Well ks) (hp : p.size ≤ 1000) (ok : Hm.Ok ⟨at_, a1, c1, old, a2, c2, new⟩ w w.heap.size) (hm : kind = 6 → mayB [⟨at_, a1, c1, old, a2, c2, new⟩] = true) (hlo : MidK old) (hln : MidK new) (hTb : Tabs w)
    (hd : chP ks kind at_ p.data.toList old new = (er, res)) :
    Calls Tryz.prog 59 #[.agg #[.slice B n c], .agg #[.int .i64 kind, .string p, .string q, .int .i64 at_, .slice a1 old.length c1, .slice a2 new.length c2]] w (TreeLeft Tr w er res) := by
  have hal : Below w.heap.size w (((w.alloc (.cells #[.slice B n c] 43)).alloc (.cells #[.int .i64 kind, .string p, .string q, .int .i64 at_, .slice a1 old.length c1, .slice a2 new.length c2] 33)).alloc (.cells #[.slice none 0 0] 43)) := (((Below.refl _ _).alloc (Nat.le_refl _) _).alloc (by simp) _).alloc (by simp; omega) _
  have HTR := Lib.hid (T.on h hal)
  have hb1 : Below (w.alloc (.cells #[.slice B n c] 43)).heap.size (w.alloc (.cells #[.slice B n c] 43)) ((w.alloc (.cells #[.slice B n c] 43)).alloc (.cells #[.int .i64 kind, .string p, .string q, .int .i64 at_, .slice a1 old.length c1, .slice a2 new.length c2] 33)) := (Below.refl _ _).alloc (Nat.le_refl _) _
  have hb2 : Below ((w.alloc (.cells #[.slice B n c] 43)).alloc (.cells #[.int .i64 kind, .string p, .string q, .int .i64 at_, .slice a1 old.length c1, .slice a2 new.length c2] 33)).heap.size ((w.alloc (.cells #[.slice B n c] 43)).alloc (.cells #[.int .i64 kind, .string p, .string q, .int .i64 at_, .slice a1 old.length c1, .slice a2 new.length c2] 33)) (((w.alloc (.cells #[.slice B n c] 43)).alloc (.cells #[.int .i64 kind, .string p, .string q, .int .i64 at_, .slice a1 old.length c1, .slice a2 new.length c2] 33)).alloc (.cells #[.slice none 0 0] 43)) := (Below.refl _ _).alloc (Nat.le_refl _) _
  have HT : Hid (TAt (((w.alloc (.cells #[.slice B n c] 43)).alloc (.cells #[.int .i64 kind, .string p, .string q, .int .i64 at_, .slice a1 old.length c1, .slice a2 new.length c2] 33)).alloc (.cells #[.slice none 0 0] 43)) w.heap.size B n c) := ((TAt.new_ w B n c).on hb1).on hb2
  have HP : Hid (PAt (((w.alloc (.cells #[.slice B n c] 43)).alloc (.cells #[.int .i64 kind, .string p, .string q, .int .i64 at_, .slice a1 old.length c1, .slice a2 new.length c2] 33)).alloc (.cells #[.slice none 0 0] 43)) (w.heap.size + 1) kind p q at_ a1 old.length c1 a2 new.length c2) := by
    have h := PAt.new_ (w.alloc (.cells #[.slice B n c] 43)) kind p q at_ a1 old.length c1 a2 new.length c2
    rw [World.size_alloc] at h
    exact h.on hb2
  have HR : Hid (TAt (((w.alloc (.cells #[.slice B n c] 43)).alloc (.cells #[.int .i64 kind, .string p, .string q, .int .i64 at_, .slice a1 old.length c1, .slice a2 new.length c2] 33)).alloc (.cells #[.slice none 0 0] 43)) (w.heap.size + 2) none 0 0) := by
    have h := TAt.new_ ((w.alloc (.cells #[.slice B n c] 43)).alloc (.cells #[.int .i64 kind, .string p, .string q, .int .i64 at_, .slice a1 old.length c1, .slice a2 new.length c2] 33)) none 0 0
    rw [World.size_alloc, World.size_alloc] at h
    exact h
  have HTB := Lib.hid (Tabs.on hTb hal)
  have HA := Lib.hid hal
  have HO := Lib.hid (ok.on hal)
  have t0 := HT.out.c0
  have b0 := HP.out.k0
  have b1 := HP.out.k1
  have b2 := HP.out.k2
  have b3 := HP.out.k3
  have b4 := HP.out.k4
  have b5 := HP.out.k5
  clear hal h hTb ok hb1 hb2
  have m1 := hlo.1
  have m2 := hln.1
  unfold chP at hd
  have CG0 := fun W hs => T.get B n c ks p W hs hk hp
  have hfm := fun f (hf : (ks.find? fun k => decide (k.1 = p.data.toList)) = some f) => check_wide (hw.lines f (List.mem_of_find?_eq_some hf))
  generalize (ks.find? fun k => decide (k.1 = p.data.toList)) = o at *
  cases o with
  | none =>
    obtain ⟨e1, e2⟩ := Prod.mk.inj hd
    subst e1
    have CG := Lib.hid (fun W hs => pget_none (CG0 W hs))
    clear CG0 hd hfm
    go_enter Tryz.func59, Tryz.ntmps59
    go_wp2_with fail
    generalize (((w.alloc (.cells #[.slice B n c] 43)).alloc (.cells #[.int .i64 kind, .string p, .string q, .int .i64 at_, .slice a1 old.length c1, .slice a2 new.length c2] 33)).alloc (.cells #[.slice none 0 0] 43)) = wa at *
    refine (CG.out wa HTR.out).mono ?_
    rintro e w2 ⟨f2, rfl, hf, hb⟩
    have hal3 : Below w2.heap.size w2 (w2.alloc (.cells #[.string f2.p, .bool f2.d, .slice f2.a f2.ls.length f2.c] 62)) := (Below.refl _ _).alloc (Nat.le_refl _) _
    have HB2 := Lib.hid (hb.trans (hal3.mono hb.size))
    clear hb hal3 hf CG
    have hR5 := HR.out.on HB2.out
    have x0 := hR5.c0
    have x1 := hR5.fz 0
    have HF := Lib.hid (left_no T (w := w) (G := w.heap.size + 2) (res := res) (by decide : (9 : Int) ≠ 0) (HA.out.trans (HB2.out.mono HA.out.size)) (by omega))
    have HRS := Lib.hid (hR5.set none 0 0)
    clear hR5
    go_wp2
    (try simp only [Exit.inBlock, Exit.then])
    refine bodyPost_ret (ret_tree2 rfl _ _ _ none 0 0 _ rfl rfl HRS.out) rfl ?_
    exact HF.out
  | some f =>
    obtain ⟨hfw, hf2000⟩ := hfm f rfl
    simp only [] at hd
    have CG := Lib.hid (fun W hs => pget_some (CG0 W hs))
    obtain ⟨le, hle⟩ : ∃ x, leftE kind at_ f.2.1 f.2.2 old = x := ⟨_, rfl⟩
    obtain ⟨ll, hll⟩ : ∃ x, leftL kind at_ f.2.2 old new = x := ⟨_, rfl⟩
    have hllw : WideK ll := by
      rw [← hll]
      unfold leftL
      split
      · exact putL_wide hfw (by omega) hln
      · exact ⟨by simp, by simp⟩
    rw [hle, hll] at hd
    have HD := Lib.hid hd
    have HLE := Lib.hid hle
    have HLL := Lib.hid hll
    have HLW := Lib.hid hllw
    have HM := Lib.hid hm
    have HFW := Lib.hid hfw
    clear CG0 hd hfm hle hll hllw hm hfw
    go_enter Tryz.func59, Tryz.ntmps59
    go_wp2_with fail
    generalize (((w.alloc (.cells #[.slice B n c] 43)).alloc (.cells #[.int .i64 kind, .string p, .string q, .int .i64 at_, .slice a1 old.length c1, .slice a2 new.length c2] 33)).alloc (.cells #[.slice none 0 0] 43)) = wa at *
    refine (CG.out wa HTR.out).mono ?_
    rintro e w2 ⟨f2, rfl, hf, hb⟩
    have hal3 : Below w2.heap.size w2 (w2.alloc (.cells #[.string f2.p, .bool f2.d, .slice f2.a f2.ls.length f2.c] 62)) := (Below.refl _ _).alloc (Nat.le_refl _) _
    have HB2 := Lib.hid (hb.trans (hal3.mono hb.size))
    have HX2 := Lib.hid (FlAt.new_ w2 f2.p f2.d f2.a f2.ls.length f2.c)
    have HOK := Lib.hid (hf.out.1.on hal3)
    have HKD : Hid (f.2.1 = f2.d ∧ f.2.2 = f2.ls) := ⟨(congrArg (fun k : PF => k.2.1) hf.out.2).symm, (congrArg (fun k : PF => k.2.2) hf.out.2).symm⟩
    clear hb hal3 hf CG
    clear t0 b0 b1 b2 b3 b4 b5
    have t0 := (HT.out.on HB2.out).c0
    have b0 := (HP.out.on HB2.out).k0
    have b1 := (HP.out.on HB2.out).k1
    have b2 := (HP.out.on HB2.out).k2
    have b3 := (HP.out.on HB2.out).k3
    have b4 := (HP.out.on HB2.out).k4
    have b5 := (HP.out.on HB2.out).k5
    go_wp2_with fail
    generalize (w2.alloc (.cells #[.string f2.p, .bool f2.d, .slice f2.a f2.ls.length f2.c] 62)) = w3 at *
    refine (leaver_any kind p q at_ a1 old.length c1 a2 new.length c2 w3).mono ?_
    rintro e w4 ⟨rfl, rfl⟩
    have hal4 : Below w3.heap.size w3 (w3.alloc (.cells #[.int .i64 kind, .string p, .string q, .int .i64 at_, .slice a1 old.length c1, .slice a2 new.length c2] 33)) := (Below.refl _ _).alloc (Nat.le_refl _) _
    have HB4 := Lib.hid (HB2.out.trans (hal4.mono HB2.out.size))
    have HP4 := Lib.hid (PAt.new_ w3 kind p q at_ a1 old.length c1 a2 new.length c2)
    have HX4 := Lib.hid (HX2.out.on hal4)
    have C5 := Lib.hid (leaver1_any w3.heap.size kind p q at_ a1 c1 old a2 c2 new f2.p f2.d f2.a f2.c f2.ls (w3.alloc (.cells #[.int .i64 kind, .string p, .string q, .int .i64 at_, .slice a1 old.length c1, .slice a2 new.length c2] 33)) HP4.out (HOK.out.on hal4).ls HOK.out.r (HO.out.on HB4.out) HM.out (by rw [← HKD.out.2]; omega) (by omega) (by omega) le ll (by rw [← HKD.out.1, ← HKD.out.2]; exact HLE.out) (by rw [← HKD.out.2]; exact HLL.out))
    have x0 := HX4.out.c0
    have x1 := HX4.out.c1
    have x2 := HX4.out.c2
    clear hal4
    clear t0 b0 b1 b2 b3 b4 b5
    have t0 := (HT.out.on HB4.out).c0
    have b0 := (HP.out.on HB4.out).k0
    have b1 := (HP.out.on HB4.out).k1
    have b2 := (HP.out.on HB4.out).k2
    have b3 := (HP.out.on HB4.out).k3
    have b4 := (HP.out.on HB4.out).k4
    have b5 := (HP.out.on HB4.out).k5
    go_wp2_with fail
    generalize (w3.alloc (.cells #[.int .i64 kind, .string p, .string q, .int .i64 at_, .slice a1 old.length c1, .slice a2 new.length c2] 33)) = w5 at *
    refine C5.out.mono ?_
    rintro e w6 ⟨A6, k6, l6, rfl, hl6, hr6, hs6, hb6⟩
    have HB6 := Lib.hid (HB4.out.trans (hb6.mono HB4.out.size))
    have HL6 := Lib.hid hl6
    have HR6 := Lib.hid hr6
    have HS6 := Lib.hid hs6
    clear hl6 hr6 hs6 hb6 C5 HX4 HP4 x0 x1 x2
    clear t0 b0 b1 b2 b3 b4 b5
    have t0 := (HT.out.on HB6.out).c0
    have b0 := (HP.out.on HB6.out).k0
    have b1 := (HP.out.on HB6.out).k1
    have b2 := (HP.out.on HB6.out).k2
    have b3 := (HP.out.on HB6.out).k3
    have b4 := (HP.out.on HB6.out).k4
    have b5 := (HP.out.on HB6.out).k5
    by_cases hle0 : le = 0
    · have hll6 := HL6.out.1 hle0
      subst hle0
      subst hll6
      have hd := HD.out
      rw [if_neg (by simp)] at hd
      by_cases hk6 : kind = 6
      · subst hk6
        rw [if_pos rfl] at hd
        have CW := Lib.hid (T.write B n c ks p A6 l6 k6 er res w6 (T.on HTR.out HB6.out) hk hp HS6.out HR6.out HLW.out (Tabs.on HTB.out HB6.out) hd)
        clear hd
        go_wp2_with fail
        refine CW.out.mono ?_
        rintro e w7 ⟨A5, n5, c5, rfl, ht, hb⟩
        have hR5 := (HR.out.on HB6.out).on hb
        have x0 := hR5.c0
        have x1 := hR5.fz 0
        have HF := Lib.hid (left_pass T (w := w) ht.out hR5 (HA.out.trans ((HB6.out.trans (hb.mono HB6.out.size)).mono HA.out.size)) (by omega))
        have HRS := Lib.hid (hR5.set A5 n5 c5)
        clear ht hb hR5
        go_wp2
        (try simp only [Exit.inBlock, Exit.then])
        refine bodyPost_ret (ret_tree2 rfl _ _ _ A5 n5 c5 _ rfl rfl HRS.out) rfl ?_
        exact HF.out
      · have hk62 : (kind == 6) = false := by simpa using hk6
        rw [if_neg hk6] at hd
        have CW := Lib.hid (T.remove B n c ks p er res w6 (T.on HTR.out HB6.out) hk hp hd)
        clear hd
        go_wp2_with fail
        refine CW.out.mono ?_
        rintro e w7 ⟨A5, n5, c5, rfl, ht, hb⟩
        have hR5 := (HR.out.on HB6.out).on hb
        have x0 := hR5.c0
        have x1 := hR5.fz 0
        have HF := Lib.hid (left_pass T (w := w) ht.out hR5 (HA.out.trans ((HB6.out.trans (hb.mono HB6.out.size)).mono HA.out.size)) (by omega))
        have HRS := Lib.hid (hR5.set A5 n5 c5)
        clear ht hb hR5
        go_wp2
        (try simp only [Exit.inBlock, Exit.then])
        refine bodyPost_ret (ret_tree2 rfl _ _ _ A5 n5 c5 _ rfl rfl HRS.out) rfl ?_
        exact HF.out
    · have hle2 : (le == 0) = false := by simpa using hle0
      have hle3 : (le != 0) = true := by simpa using hle0
      have hd := HD.out
      rw [if_pos hle0] at hd
      obtain ⟨e1, e2⟩ := Prod.mk.inj hd
      subst e1
      clear hd
      have hR5 := HR.out.on HB6.out
      have x0 := hR5.c0
      have x1 := hR5.fz 0
      have HF := Lib.hid (left_no T (w := w) (G := w.heap.size + 2) (res := res) (hle0 : (le : Int) ≠ 0) (HA.out.trans (HB6.out.mono HA.out.size)) (by omega))
      have HRS := Lib.hid (hR5.set none 0 0)
      clear hR5
      go_wp2
      (try simp only [Exit.inBlock, Exit.then])
      refine bodyPost_ret (ret_tree2 rfl _ _ _ none 0 0 _ rfl rfl HRS.out) rfl ?_
      exact HF.out
end Go.Proofs.YtalabahjfmcnbaaGreatDoor
