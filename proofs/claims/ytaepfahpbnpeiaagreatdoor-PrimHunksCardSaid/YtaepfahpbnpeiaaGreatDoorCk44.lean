/- PrimHunks. -/
import Derived.Test.YtaepfahpbnpeiaaGreatDoorCk35
import Derived.Test.YtaepfahpbnpeiaaGreatDoorCk39
import Derived.Test.YtaepfahpbnpeiaaGreatDoorCk40
import Derived.Test.YtaepfahpbnpeiaaGreatDoorCk24
import Derived.Test.YtaepfahpbnpeiaaGreatDoorCk08
import Derived.Test.YtaepfahpbnpeiaaGreatDoorCk36
namespace Go.Proofs.YtaepfahpbnpeiaaGreatDoor
open Go.RowKit
set_option linter.unusedVariables false

theorem new_le_sum : ∀ {l : List (Hk (List UInt8))} {h : Hk (List UInt8)}, h ∈ l → h.new.length ≤ sumNew l
  | g :: l, h, hh => by
    rcases List.mem_cons.1 hh with rfl | hh
    · simp only [sumNew, List.map_cons, List.sum_cons]
      omega
    · have := new_le_sum hh
      simp only [sumNew, List.map_cons, List.sum_cons] at *
      omega
/-- The lines of a hunk between two lists that are light. -/
theorem hunk_light {a b : List (List UInt8)} (ha : LightK a) (hb : LightK b) {h : Hk (List UInt8)} (hh : h ∈ hunks a b) : LightK h.old ∧ LightK h.new := by
  obtain ⟨hdone, hmay, hsum, hsum2⟩ := hunks_facts a b
  obtain ⟨happ, hst⟩ := hunks_app a b
  obtain ⟨m1, m2⟩ := done_mem hdone h hh
  have s1 := (hst h hh).1
  have s2 : h.new.length ≤ sumNew (hunks a b) := new_le_sum hh
  have := ha.1
  have := hb.1
  exact ⟨⟨by omega, fun x hx => ha.2 x (m1 x hx)⟩, ⟨by omega, fun x hx => hb.2 x (m2 x hx)⟩⟩
/-- One file alone makes a tree. -/
theorem of_one {p : List UInt8} {ls : List (List UInt8)} {ks : List PF} {er : Int} (hp : (names nameP p).length = 1) (hl : checkN (toBs ls) = 0) (hperm : ks.Perm [(p, false, ls)]) (h : OfE ks er) : ks = [(p, false, ls)] ∧ er = 0 := by
  have e : ks = [(p, false, ls)] := List.perm_singleton.1 hperm
  subst e
  refine ⟨rfl, ?_⟩
  have hc : ∀ i, i < [((p, false, ls) : PF)].length → chkK [(p, false, ls)] i = 0 := by
    intro i hi
    obtain rfl : i = 0 := by simpa using hi
    rw [chkK_at hi]
    unfold chkP
    simp only [List.getElem_cons_zero, List.take_zero, Nat.zero_add, List.drop_one, List.tail_cons]
    rw [if_neg (fun e => by rw [e] at hp; simp at hp), if_neg (by simp [nextK]), if_neg (by rw [dirP_one hp]; simp [dirK]), if_neg (by simpa using hl), if_neg (by simp)]
  rcases h with ⟨h, _⟩ | ⟨h, i, hi, hx⟩
  · exact h
  · rw [hc i hi] at hx
    exact hx.symm
theorem fs_one (w : World) (f : Fm) (ok : f.Ok w w.heap.size) : Fs (w.alloc (.cells f.cells.toArray 49)) (w.alloc (.cells f.cells.toArray 49)).heap.size (some ⟨w.heap.size, 0, none⟩) [f] := by
  have hb : Below w.heap.size w (w.alloc (.cells f.cells.toArray 49)) := (Below.refl _ _).alloc (Nat.le_refl _) _
  have hn := FileAt.new_ w f
  refine ⟨fun _ => ⟨w.heap.size, 0, rfl, hn.lt, fun j hj => ?_⟩, fun g hg => ?_⟩
  · obtain rfl : j = 0 := by simpa using hj
    simp only [List.getElem_cons_zero, Nat.zero_mul, Nat.zero_add]
    exact ⟨hn.c0, hn.c1, hn.c2⟩
  · rw [List.mem_singleton] at hg
    subst hg
    exact ok.on hb
/-- What is held at each round: the tree, and the hunks. -/
structure HunkS (w wr : World) (G7 : Nat) (B : Option Addr) (n c : Nat) (ks : List PF) (A : Option Addr) (hs : List Hm) : Prop where
  t : TrC wr B n c ks
  ta : TAt wr G7 B n c
  hs : Hks wr wr.heap.size A hs
  below : Below w.heap.size w wr
theorem HunkS.on {w wr w' : World} {G7 : Nat} {B : Option Addr} {n c : Nat} {ks : List PF} {A : Option Addr} {hs : List Hm} (h : HunkS w wr G7 B n c ks A hs) (hb : Below wr.heap.size wr w') : HunkS w w' G7 B n c ks A hs :=
  ⟨tree_c.on h.t hb, h.ta.on hb, h.hs.on hb, h.below.trans (hb.mono h.below.size)⟩
theorem may_len : ∀ (l : List (Hk (List UInt8))), May l → l.length ≤ sumOld l + sumNew l
  | [], _ => Nat.zero_le _
  | h :: l, hm => by
    obtain ⟨h1, _, h3⟩ := hm
    have ih := may_len l h3
    have hpos : 0 < h.old.length + h.new.length := by
      rcases h1 with h1 | h1 <;> (have := List.length_pos_iff.2 h1; omega)
    simp only [List.length_cons, sumOld, sumNew, List.map_cons, List.sum_cons] at *
    omega
theorem hunks_len (a b : List (List UInt8)) : (hunks a b).length ≤ a.length + b.length := by
  obtain ⟨_, hm, h1, h2⟩ := hunks_facts a b
  have := may_len _ hm
  omega
theorem hks_set {w w' : World} {A A2 : Option Addr} {hs : List Hm} {G n c : Nat} (h : Hks w w.heap.size A hs) (k : TAt w G A2 n c) (hg : w.grownBy w' (some G)) : Hks w' w'.heap.size A hs := by
  have cell : ∀ {b off : Nat} {v : Value}, w.cell? ⟨b, off, none⟩ = some v → b ≠ G → w'.cell? ⟨b, off, none⟩ = some v := fun {b off v} h1 h2 => by
    have hlt := World.block_lt_of_cell? _ _ h1
    unfold World.cell? at h1 ⊢
    rw [hg.block b hlt (by simpa using h2)]
    exact h1
  have one : ∀ {off : Nat} {v : Value}, w.cell? ⟨G, off, none⟩ = some v → v = .slice A2 n c := fun {off v} h1 => by
    simp only [World.cell?, show w.heap[G]? = _ from k] at h1
    match off, h1 with
    | 0, h1 => simpa using h1.symm
    | m + 1, h1 => simp at h1
  have strs : ∀ {B : Option Addr} {ss : List ByteArray}, Strs w w.heap.size B ss → Strs w' w'.heap.size B ss := fun {B ss} hs hp => by
    obtain ⟨b, off, e, hlt, hc⟩ := hs hp
    have hb : b ≠ G := fun e => by
      subst e
      have := one (hc 0 hp)
      cases this
    exact ⟨b, off, e, Nat.lt_of_lt_of_le hlt hg.size, fun j hj => cell (hc j hj) hb⟩
  refine ⟨fun hp => ?_, fun x hx => ?_⟩
  · obtain ⟨b, off, e, hlt, hc⟩ := h.at_ hp
    have hb : b ≠ G := fun e => by
      subst e
      have := one (hc 0 hp).1
      cases this
    refine ⟨b, off, e, Nat.lt_of_lt_of_le hlt hg.size, fun j hj => ?_⟩
    obtain ⟨h1, h2, h3⟩ := hc j hj
    exact ⟨cell h1 hb, cell h2 hb, cell h3 hb⟩
  · have ok := h.ok x hx
    exact ⟨strs ok.old, strs ok.new, ok.r1, ok.r2, ok.lo, ok.hi, ok.n1, ok.n2⟩
theorem keep4 {w w2 : World} {b0 b1 b2 b3 o0 o1 o2 o3 : Nat} {v0 v1 v2 v3 : Value} (h : w.cell? ⟨b0, o0, none⟩ = some v0 ∧ w.cell? ⟨b1, o1, none⟩ = some v1 ∧ w.cell? ⟨b2, o2, none⟩ = some v2 ∧ w.cell? ⟨b3, o3, none⟩ = some v3) (hb : Below w.heap.size w w2) : w2.cell? ⟨b0, o0, none⟩ = some v0 ∧ w2.cell? ⟨b1, o1, none⟩ = some v1 ∧ w2.cell? ⟨b2, o2, none⟩ = some v2 ∧ w2.cell? ⟨b3, o3, none⟩ = some v3 :=
  ⟨cell_on h.1 hb, cell_on h.2.1 hb, cell_on h.2.2.1 hb, cell_on h.2.2.2 hb⟩
theorem keep4s {w : World} {b0 b1 b2 b3 o0 o1 o2 o3 g i : Nat} {v0 v1 v2 v3 u : Value} (h : w.cell? ⟨b0, o0, none⟩ = some v0 ∧ w.cell? ⟨b1, o1, none⟩ = some v1 ∧ w.cell? ⟨b2, o2, none⟩ = some v2 ∧ w.cell? ⟨b3, o3, none⟩ = some v3) (n0 : b0 ≠ g) (n1 : b1 ≠ g) (n2 : b2 ≠ g) (n3 : b3 ≠ g) : (w.setCell ⟨g, i, none⟩ u).cell? ⟨b0, o0, none⟩ = some v0 ∧ (w.setCell ⟨g, i, none⟩ u).cell? ⟨b1, o1, none⟩ = some v1 ∧ (w.setCell ⟨g, i, none⟩ u).cell? ⟨b2, o2, none⟩ = some v2 ∧ (w.setCell ⟨g, i, none⟩ u).cell? ⟨b3, o3, none⟩ = some v3 :=
  ⟨keep_cell h.1 n0, keep_cell h.2.1 n1, keep_cell h.2.2.1 n2, keep_cell h.2.2.2 n3⟩
theorem light_hunk {p : ByteArray} {y : Pm} {at_ : Int} {old new : List (List UInt8)} (h : y.key = ⟨6, p.data.toList, [], at_, old, new⟩) (hp : p.size ≤ 300) (h1 : LightK old) (h2 : LightK new) : y.Light := by
  have hs : ∀ s : ByteArray, s.size = s.data.toList.length := fun s => by simp
  have e1 : y.p.data.toList = p.data.toList := congrArg Pk.path h
  have e2 : y.dst.data.toList = [] := congrArg Pk.dst h
  have e3 : y.old = old := congrArg Pk.old h
  have e4 : y.new = new := congrArg Pk.new h
  exact ⟨by rw [hs, e1, ← hs]; exact hp, by rw [hs, e2]; simp, by rw [e3]; exact h1, by rw [e4]; exact h2⟩
theorem hunk_checks {a b : List (List UInt8)} (ha : checkN (toBs a) = 0) (hb : checkN (toBs b) = 0) (hn : a.length + b.length ≤ 2000) (j : Nat) : checkN (toBs (refApp a ((hunks a b).drop j))) = 0 := by
  obtain ⟨hdone, hmay, hsum, hsum2⟩ := hunks_facts a b
  have hmem := done_mem hdone
  rw [check_iff] at *
  refine ⟨?_, fun x hx => ?_⟩
  · have h1 := len_refApp (a := a) ((hunks a b).drop j)
    have h2 := sumNew_drop (hunks a b) j
    omega
  · rcases mem_refApp hx with h | ⟨g, hg, h⟩
    · exact ha.2 x h
    · exact hb.2 x ((hmem g (List.mem_of_mem_drop hg)).2 x h)
set_option maxHeartbeats 20000000 in
set_option maxRecDepth 100000 in
theorem primhunks_any (p : ByteArray) (A1 : Option Addr) (la : List (List UInt8)) (cap1 : Nat) (A2 : Option Addr) (lb : List (List UInt8)) (cap2 : Nat) (w : World) (hp : p.size ≤ 9223372036854775807) (ha : Strs w w.heap.size A1 (toBs la)) (han : la.length ≤ 9223372036854775807) (har : Room A1 la.length cap1) (hb : Strs w w.heap.size A2 (toBs lb)) (hbn : lb.length ≤ 9223372036854775807) (hbr : Room A2 lb.length cap2) (hT : Tabs w) :
    Calls Tryz.prog 4 #[.string p, .slice A1 la.length cap1, .slice A2 lb.length cap2] w fun e w' => e = .returned (.bool true) ∧ Below w.heap.size w w' := by
  have CA := Lib.hid (fun W (hb : Below w.heap.size w W) => pawake_any W (Tabs.on hT hb))
  have HSA := Lib.hid ha
  have HSB := Lib.hid hb
  have HTB := Lib.hid hT
  have HRA := Lib.hid har
  have CR := Lib.hid (refpright_any p w hp)
  have CN := Lib.hid (fun W => refnames_any p W hp)
  have L1 := fun W (hb : Below w.heap.size w W) => light3_any A1 (toBs la) cap1 W (HSA.out.on hb) (by rw [toBs_len]; exact han)
  have L2 := fun W (hb : Below w.heap.size w W) => light3_any A2 (toBs lb) cap2 W (HSB.out.on hb) (by rw [toBs_len]; exact hbn)
  rw [toBs_len] at L1 L2
  have K1 := fun (h : LightK la) W (hb : Below w.heap.size w W) => refcheck_l A1 la cap1 W (HSA.out.on hb) (Nat.le_trans h.1 (by decide)) (fun x hx => Nat.le_trans (h.2 x hx) (by decide)) (Tabs.on HTB.out hb)
  have K2 := fun (h : LightK lb) W (hb : Below w.heap.size w W) => refcheck_l A2 lb cap2 W (HSB.out.on hb) (Nat.le_trans h.1 (by decide)) (fun x hx => Nat.le_trans (h.2 x hx) (by decide)) (Tabs.on HTB.out hb)
  clear ha hb hT har hbr
  obtain ⟨rd, hrd⟩ : ∃ d, decide (names nameP p.data.toList ≠ []) = d := ⟨_, rfl⟩
  obtain ⟨la1, hla1⟩ : ∃ d, light3B (toBs la) = d := ⟨_, rfl⟩
  obtain ⟨lb1, hlb1⟩ : ∃ d, light3B (toBs lb) = d := ⟨_, rfl⟩
  obtain ⟨ka, hka⟩ : ∃ d, checkN (toBs la) = d := ⟨_, rfl⟩
  obtain ⟨kb, hkb⟩ : ∃ d, checkN (toBs lb) = d := ⟨_, rfl⟩
  rw [hrd] at CR
  rw [hla1] at L1
  rw [hlb1] at L2
  rw [hka] at K1
  rw [hkb] at K2
  have HD1 := Lib.hid hla1
  have HD2 := Lib.hid hlb1
  have HKA := Lib.hid hka
  have HKB := Lib.hid hkb
  have L1 := Lib.hid L1
  have L2 := Lib.hid L2
  have K1 := Lib.hid K1
  have K2 := Lib.hid K2
  clear hrd hla1 hlb1 hka hkb
  by_cases h1 : 300 < p.size
  · have q0 : (300 : Int) < (p.size : Int) := by omega
    go_enter Tryz.func4, Tryz.ntmps4
    go_wp2_with fail
    refine (CA.out _ (Below.refl w.heap.size w)).mono ?_
    rintro e wk ⟨rfl, hbk⟩
    have HB := Lib.hid (((Below.refl w.heap.size w) : Below w.heap.size w _).trans (hbk.mono ((Below.refl w.heap.size w) : Below w.heap.size w _).size))
    clear hbk
    go_wp2
    go_ret
    exact ⟨rfl, HB.out⟩
  · have q0 : ¬ ((300 : Int) < (p.size : Int)) := by omega
    go_enter Tryz.func4, Tryz.ntmps4
    go_wp2_with fail
    refine CR.out.mono ?_
    rintro e w1 ⟨rfl, hb1⟩
    have HB1 := Lib.hid hb1
    clear hb1 CR
    cases rd
    · go_wp2_with fail
      refine (CA.out _ HB1.out).mono ?_
      rintro e wk ⟨rfl, hbk⟩
      have HB := Lib.hid ((HB1.out : Below w.heap.size w _).trans (hbk.mono (HB1.out : Below w.heap.size w _).size))
      clear hbk
      go_wp2
      go_ret
      exact ⟨rfl, HB.out⟩
    · go_wp2_with fail
      refine (CN.out w1).mono ?_
      rintro e w2 ⟨v, rfl, ho, hb2⟩
      have HB2 := Lib.hid (HB1.out.trans (hb2.mono HB1.out.size))
      obtain ⟨A3, c3, rfl, _, _, _⟩ := ho.strs
      clear ho hb2 CN HB1
      obtain ⟨nn, hnn⟩ : ∃ x, (names nameP p.data.toList).length = x := ⟨_, rfl⟩
      rw [hnn]
      have HNM := Lib.hid hnn
      clear hnn
      by_cases hn1 : nn = 1
      · subst hn1
        go_wp2_with fail
        refine (L1.out w2 HB2.out).mono ?_
        rintro e w3 ⟨rfl, hw3⟩
        subst hw3
        cases la1
        · go_wp2_with fail
          refine (CA.out _ HB2.out).mono ?_
          rintro e wk ⟨rfl, hbk⟩
          have HB := Lib.hid ((HB2.out : Below w.heap.size w _).trans (hbk.mono (HB2.out : Below w.heap.size w _).size))
          clear hbk
          go_wp2
          go_ret
          exact ⟨rfl, HB.out⟩
        · have HLA : Hid (LightK la) := light3_facts HD1.out
          go_wp2_with fail
          refine (L2.out w2 HB2.out).mono ?_
          rintro e w3 ⟨rfl, hw3⟩
          subst hw3
          cases lb1
          · go_wp2_with fail
            refine (CA.out _ HB2.out).mono ?_
            rintro e wk ⟨rfl, hbk⟩
            have HB := Lib.hid ((HB2.out : Below w.heap.size w _).trans (hbk.mono (HB2.out : Below w.heap.size w _).size))
            clear hbk
            go_wp2
            go_ret
            exact ⟨rfl, HB.out⟩
          · have HLB : Hid (LightK lb) := light3_facts HD2.out
            go_wp2_with fail
            refine (K1.out HLA.out w2 HB2.out).mono ?_
            rintro e w3 ⟨rfl, hb3⟩
            have HB3 := Lib.hid (HB2.out.trans (hb3.mono HB2.out.size))
            clear hb3
            by_cases hka0 : ka = 0
            · subst hka0
              go_wp2_with fail
              refine (K2.out HLB.out w3 HB3.out).mono ?_
              rintro e w4 ⟨rfl, hb4⟩
              have HB4 := Lib.hid (HB3.out.trans (hb4.mono HB3.out.size))
              clear hb4 HB2 HB3
              by_cases hkb0 : kb = 0
              · subst hkb0
                have HK1 : Hid (checkN (toBs la) = 0) := HKA.out
                have HK2 : Hid (checkN (toBs lb) = 0) := HKB.out
                have HNN : Hid ((names nameP p.data.toList).length = 1) := HNM.out
                have HCH : Hid (∀ j, checkN (toBs (refApp la ((hunks la lb).drop j))) = 0) := hunk_checks HK1.out HK2.out (by have := HLA.out.1; have := HLB.out.1; omega)
                have hal : Below w4.heap.size w4 (w4.alloc (.cells #[.string p, .bool false, .slice A1 la.length cap1] 49)) := (Below.refl _ _).alloc (Nat.le_refl _) _
                have HB5 := Lib.hid (HB4.out.trans (hal.mono HB4.out.size))
                have HFS : Hid (Fs (w4.alloc (.cells #[.string p, .bool false, .slice A1 la.length cap1] 49)) (w4.alloc (.cells #[.string p, .bool false, .slice A1 la.length cap1] 49)).heap.size (some ⟨w4.heap.size, 0, none⟩) [⟨p, false, A1, cap1, la⟩]) := fs_one w4 ⟨p, false, A1, cap1, la⟩ ⟨HSA.out.on HB4.out, HRA.out⟩
                have CO := Lib.hid (of_any (some ⟨w4.heap.size, 0, none⟩) [⟨p, false, A1, cap1, la⟩] 1 (w4.alloc (.cells #[.string p, .bool false, .slice A1 la.length cap1] 49)) HFS.out (by simp) (by intro f hf; rw [List.mem_singleton] at hf; subst hf; show p.size ≤ _; omega) (by intro f hf; rw [List.mem_singleton] at hf; subst hf; exact HLA.out.wide) (Tabs.on HTB.out HB5.out))
                clear hal L1 L2 K1 K2 HD1 HD2 HKA HKB HNM
                go_wp2_with fail
                refine CO.out.mono ?_
                rintro e w6 ⟨er0, ks, hperm, hweak, hofe, B, n, c, rfl, ht, hb⟩
                obtain ⟨hks, he0⟩ := of_one HNN.out HK1.out hperm hofe
                have HB6 : Below w.heap.size w w6 := HB5.out.trans (hb.mono HB5.out.size)
                subst hks
                subst he0
                have hal : Below w6.heap.size w6 (w6.alloc (.cells #[.slice B n c] 28)) := (Below.refl _ _).alloc (Nat.le_refl _) _
                have HT7 := Lib.hid (tree_c.on (ht.out.1 rfl) hal)
                have HA7 := Lib.hid (TAt.new_ w6 B n c)
                have HB7 := Lib.hid (HB6.trans (hal.mono HB6.size))
                have CH := Lib.hid (refhunks_any A1 A2 la lb cap1 cap2 (w6.alloc (.cells #[.slice B n c] 28)) (HSA.out.on HB7.out) (HSB.out.on HB7.out) (by have := HLA.out.1; omega) (by have := HLB.out.1; omega))
                have HG7 := Lib.hid HB6.size
                clear ht hb hal HB6 hperm hweak hofe CO
                go_wp2_with fail
                generalize hG7 : w6.heap.size = G7 at *
                generalize hw7 : (w6.alloc (.cells #[.slice B n c] 28)) = w7 at *
                clear hw7 hG7
                refine CH.out.mono ?_
                rintro e w8 ⟨AH, ch, hs, rfl, ⟨hpl, hnn⟩, hrm, hks, hb⟩
                have hlen : hs.length = (hunks la lb).length := by rw [← hpl]; simp [plains]
                have hl120 : hs.length ≤ 120 := by
                  have := hunks_len la lb
                  have := HLA.out.1
                  have := HLB.out.1
                  omega
                have HS : Hid (HunkS w w8 G7 B n c [(p.data.toList, false, refApp la ((hunks la lb).drop hs.length))] AH hs) := by
                  rw [hlen, List.drop_length]
                  exact ⟨tree_c.on HT7.out hb, HA7.out.on hb, hks, HB7.out.trans (hb.mono HB7.out.size)⟩
                have HPL := Lib.hid hpl
                have HNN2 := Lib.hid hnn
                have HLEN := Lib.hid hlen
                clear hpl hnn hrm hks hb CH HT7 HA7 HB7 hlen
                go_wp2_with fail
                go_loopw [10] (fun iv wr => ∃ (k : Nat) (B : Option Addr) (n c : Nat), k ≤ hs.length ∧ iv = .int .i64 ((k : Int) - 1) ∧ Hid (HunkS w wr G7 B n c [(p.data.toList, false, refApp la ((hunks la lb).drop k))] AH hs)) (fun iv _ => (intOf iv + 1).toNat)
                case atStart => exact ⟨hs.length, B, n, c, Nat.le_refl _, rfl, HS⟩
                case round =>
                  clear HS
                  obtain ⟨k, B, n, c, hk, rfl, HK⟩ := hrel
                  cases k with
                  | zero =>
                    have CG := pget_some (k := (p.data.toList, false, lb)) (by
                      have h := tree_c.get B n c [(p.data.toList, false, refApp la ((hunks la lb).drop 0))] p wr HK.out.t (by simp) (by omega)
                      rw [List.drop_zero, (hunks_app la lb).1] at h
                      simpa using h)
                    have CGH := Lib.hid CG
                    have t0 := HK.out.ta.c0
                    clear CG
                    go_wp2_with fail
                    refine CGH.out.mono ?_
                    rintro e w11 ⟨g, rfl, hg, hb⟩
                    have hls : g.ls = lb := congrArg (fun k : PF => k.2.2) hg.out.2
                    have hal : Below w11.heap.size w11 (w11.alloc (.cells #[.string g.p, .bool g.d, .slice g.a g.ls.length g.c] 49)) := (Below.refl _ _).alloc (Nat.le_refl _) _
                    have HS12 := Lib.hid (HK.out.below.trans ((hb.trans (hal.mono hb.size)).mono HK.out.below.size))
                    have HF12 := Lib.hid (FileAt.new_ w11 g)
                    have HO12 := Lib.hid (hg.out.1.on hal)
                    have HLS := Lib.hid hls
                    clear hg hb hal CGH t0 hls
                    go_wp2_with fail
                    have HF12 : Hid (FileAt (w11.alloc (.cells #[.string g.p, .bool g.d, .slice g.a g.ls.length g.c] 49)) w11.heap.size g) := HF12
                    generalize hwx : (w11.alloc (.cells #[.string g.p, .bool g.d, .slice g.a g.ls.length g.c] 49)) = wx at *
                    clear hwx
                    refine (CA.out wx HS12.out).mono ?_
                    rintro e w13 ⟨rfl, hb13⟩
                    have CS := Lib.hid (rsame_l g.a A2 g.ls lb g.c cap2 w13 true (by rw [HLS.out]; simp) (HO12.out.on hb13).ls (HSB.out.on (HS12.out.trans (hb13.mono HS12.out.size))) (by rw [HLS.out]; have := HLB.out.1; omega) (by have := HLB.out.1; omega))
                    have HF13 := Lib.hid (HF12.out.on hb13)
                    have HB13 := Lib.hid (HS12.out.trans (hb13.mono HS12.out.size))
                    have y0 := HF13.out.c2
                    clear hb13
                    go_wp2_with fail
                    refine CS.out.mono ?_
                    rintro e w14 ⟨rfl, q, rfl⟩
                    go_wp2
                    go_ret
                    exact ⟨rfl, below_drewN HB13.out q⟩
                  | succ k =>
                    have hlt : k < hs.length := by omega
                    have hltk : k < (hunks la lb).length := by rw [← HLEN.out]; exact hlt
                    have hx : hs[k].plain = (hunks la lb)[k] := by
                      have := HPL.out
                      subst_eqs
                      simp only [← this, plains, List.getElem_map]
                    have hstep := hunk_step (p := p.data.toList) HNN.out HK1.out HK2.out (by have := HLA.out.1; have := HLB.out.1; omega) hltk
                    have hlig := hunk_light HLA.out HLB.out (List.getElem_mem hltk)
                    rw [← hx] at hstep hlig
                    have hat : ((hs[k].plain.at_ : Nat) : Int) = hs[k].at_ := by
                      have := HNN2.out hs[k] (List.getElem_mem _)
                      simp only [Hm.plain]
                      omega
                    rw [hat] at hstep
                    obtain ⟨b, off, e, bl, d0, d1, d2⟩ := HK.out.hs.get hlt
                    subst e
                    have hok := HK.out.hs.ok hs[k] (List.getElem_mem _)
                    have hold : hs[k].plain.old = hs[k].old := rfl
                    have hnew : hs[k].plain.new = hs[k].new := rfl
                    rw [hold, hnew] at hstep hlig
                    have CHK := Lib.hid (fun W (hb : Below wr.heap.size wr W) => phunk_any p hs[k].at_ hs[k].a1 hs[k].c1 hs[k].old hs[k].a2 hs[k].c2 hs[k].new W (hok.on hb) (Nat.le_trans hlig.1.1 (by decide)) (Nat.le_trans hlig.2.1 (by decide)) (by omega))
                    have CAP := Lib.hid (fun (y : Pm) W (hb : Below wr.heap.size wr W) (hy : y.Sep W) (hk : y.key = ⟨6, p.data.toList, [], hs[k].at_, hs[k].old, hs[k].new⟩) => papply_any tree_c B n c [(p.data.toList, false, refApp la ((hunks la lb).drop (k + 1)))] y 0 [(p.data.toList, false, refApp la ((hunks la lb).drop k))] W (tree_c.on HK.out.t hb) (by simp) (well_one HNN.out (HCH.out (k + 1))) hy.1 (light_hunk hk (by omega) hlig.1 hlig.2) (Tabs.on (Tabs.on HTB.out HK.out.below) hb) (by rw [hk]; exact hstep))
                    have t0 := HK.out.ta.c0
                    have z1 : (0 : Int) ≤ (k : Int) := by omega
                    have z2 : (k : Int) < (hs.length : Int) := by omega
                    have z3 : ((k + 1 : Nat) : Int) - 1 = (k : Int) := by omega
                    rw [z3]
                    clear hx hstep hlig hat hok hold hnew hltk
                    generalize hs[k].at_ = at_ at *
                    generalize hs[k].a1 = a1 at *
                    generalize hs[k].c1 = c1 at *
                    generalize hs[k].old = old at *
                    generalize hs[k].a2 = a2 at *
                    generalize hs[k].c2 = c2 at *
                    generalize hs[k].new = new at *
                    go_wp2_with fail
                    have hS := (⟨t0, d0, d1, d2⟩ : wr.cell? ⟨G7, 0, none⟩ = some (.slice B n c) ∧ wr.cell? ⟨b, off + k * 3, none⟩ = some (.int .i64 at_) ∧ wr.cell? ⟨b, off + k * 3 + 1, none⟩ = some (.slice a1 old.length c1) ∧ wr.cell? ⟨b, off + k * 3 + 2, none⟩ = some (.slice a2 new.length c2))
                    have hglt : G7 < wr.heap.size := HK.out.ta.lt
                    have hdr : Below wr.heap.size wr wr.drew := (Below.refl _ _).drew
                    have HDR := Lib.hid hdr
                    have HDA : Hid (Below wr.heap.size wr (wr.drew.alloc (.cells #[.slice none 0 0] 28))) := hdr.alloc (Nat.le_refl _) _
                    clear hdr
                    go_region_held3 (fun w' => w'.cell? ⟨G7, 0, none⟩ = some (.slice B n c) ∧ w'.cell? ⟨b, off + k * 3, none⟩ = some (.int .i64 at_) ∧ w'.cell? ⟨b, off + k * 3 + 1, none⟩ = some (.slice a1 old.length c1) ∧ w'.cell? ⟨b, off + k * 3 + 2, none⟩ = some (.slice a2 new.length c2)) (first | with_reducible exact hS | with_reducible exact keep4 hS HDA.out | with_reducible exact keep4 hS hB11 | with_reducible exact keep4 hS hB11a | with_reducible exact keep4 hS hB12 | with_reducible exact keep4 hS hB12a | with_reducible exact keep4 (keep4 hS hB12) ((Below.refl _ _).alloc (Nat.le_refl _) _) | exact keep4s (keep4 hS hB12) (by omega) (by omega) (by omega) (by omega) | (go_keep; done)) (first
                      | (go_at_call 22; refine (CHK.out _ HDR.out).mono ?_; rintro e w11 ⟨y, rfl, hy, hb11⟩; have hB11 : Below wr.heap.size wr w11 := HDR.out.trans (hb11.mono HDR.out.size); have hs11 := hB11.size; have hB11a : Below wr.heap.size wr (w11.alloc (.cells #[.slice none 0 0] 28)) := hB11.alloc hB11.size _; have hya : y.Sep (w11.alloc (.cells #[.slice none 0 0] 28)) := hy.out.1.on ((Below.refl _ _).alloc (Nat.le_refl _) _))
                      | (go_at_call 22; refine (CHK.out _ HDA.out).mono ?_; rintro e w11 ⟨y, rfl, hy, hb11⟩; have hB11 : Below wr.heap.size wr w11 := HDA.out.trans (hb11.mono HDA.out.size); have hs11 := hB11.size; have hB11a : Below wr.heap.size wr (w11.alloc (.cells #[.slice none 0 0] 28)) := hB11.alloc hB11.size _; have hya : y.Sep (w11.alloc (.cells #[.slice none 0 0] 28)) := hy.out.1.on ((Below.refl _ _).alloc (Nat.le_refl _) _))
                      | (go_at_call 21; refine (CAP.out y _ (by first | with_reducible exact hB11 | with_reducible exact hB11a) (by first | with_reducible exact hy.out.1 | with_reducible exact hya) hy.out.2).mono ?_; rintro e w12 ⟨B5, n5, c5, rfl, ht12, hb12⟩; have hB12 : Below wr.heap.size wr w12 := (by first | exact hB11.trans (hb12.mono hB11.size) | exact hB11a.trans (hb12.mono hB11a.size)); have hB12a : Below wr.heap.size wr (w12.alloc (.cells #[.slice none 0 0] 28)) := hB12.alloc hB12.size _; first | (have hx12 : TAt w12 wr.heap.size none 0 0 := ((TAt.new_ wr.drew none 0 0).on hb11).on hb12; have x0 := hx12.c0; have x1 := hx12.fz 0) | (have hx12 : TAt w12 w11.heap.size none 0 0 := (TAt.new_ w11 none 0 0).on hb12; have x0 := hx12.c0; have x1 := hx12.fz 0) | skip))
                    all_goals
                      first
                      | (have HQ : Hid (TAt (w12.setCell ⟨wr.heap.size, 0, none⟩ (.slice B5 n5 c5)) wr.heap.size B5 n5 c5 ∧ TrC (w12.setCell ⟨wr.heap.size, 0, none⟩ (.slice B5 n5 c5)) B5 n5 c5 [(p.data.toList, false, refApp la ((hunks la lb).drop k))] ∧ Below wr.heap.size wr (w12.setCell ⟨wr.heap.size, 0, none⟩ (.slice B5 n5 c5))) := ⟨hx12.set B5 n5 c5, tree_c.set (ht12.out.1 (by simp)) hx12 (grown_cell _ _ _ _), below_set hB12 (by have := hB12.size; omega) hB12.size⟩
                         clear x0 x1 hx12 ht12 hb12 hB12 hB12a hy hya hb11 hs11 hB11 hB11a CHK CAP HDR HDA hS
                         have HK9 := Lib.hid (HK.out.on HQ.out.2.2)
                         have HQ1 := Lib.hid HQ.out.1
                         have HQ2 := Lib.hid HQ.out.2.1
                         clear HQ HK bl hglt d0 d1 d2 t0
                         generalize (w12.setCell ⟨wr.heap.size, 0, none⟩ (.slice B5 n5 c5)) = w9 at *
                         generalize wr.heap.size = G11 at *)
                      | (have HQ : Hid (TAt (w12.setCell ⟨w11.heap.size, 0, none⟩ (.slice B5 n5 c5)) w11.heap.size B5 n5 c5 ∧ TrC (w12.setCell ⟨w11.heap.size, 0, none⟩ (.slice B5 n5 c5)) B5 n5 c5 [(p.data.toList, false, refApp la ((hunks la lb).drop k))] ∧ Below wr.heap.size wr (w12.setCell ⟨w11.heap.size, 0, none⟩ (.slice B5 n5 c5))) := ⟨hx12.set B5 n5 c5, tree_c.set (ht12.out.1 (by simp)) hx12 (grown_cell _ _ _ _), below_set hB12 (by have := hB12.size; omega) hB12.size⟩
                         clear x0 x1 hx12 ht12 hb12 hB12 hB12a hy hya hb11 hs11 hB11 hB11a CHK CAP HDR HDA hS
                         have HK9 := Lib.hid (HK.out.on HQ.out.2.2)
                         have HQ1 := Lib.hid HQ.out.1
                         have HQ2 := Lib.hid HQ.out.2.1
                         clear HQ HK bl hglt d0 d1 d2 t0
                         generalize (w12.setCell ⟨w11.heap.size, 0, none⟩ (.slice B5 n5 c5)) = w9 at *
                         generalize w11.heap.size = G11 at *)
                      | (have HQ : Hid (TAt (w12.alloc (.cells #[.slice B5 n5 c5] 28)) w12.heap.size B5 n5 c5 ∧ TrC (w12.alloc (.cells #[.slice B5 n5 c5] 28)) B5 n5 c5 [(p.data.toList, false, refApp la ((hunks la lb).drop k))] ∧ Below wr.heap.size wr (w12.alloc (.cells #[.slice B5 n5 c5] 28))) := ⟨TAt.new_ w12 B5 n5 c5, tree_c.on (ht12.out.1 (by simp)) ((Below.refl _ _).alloc (Nat.le_refl _) _), hB12.alloc hB12.size _⟩
                         clear ht12 hb12 hB12 hB12a hy hya hb11 hs11 hB11 hB11a CHK CAP HDR HDA hS
                         have HK9 := Lib.hid (HK.out.on HQ.out.2.2)
                         have HQ1 := Lib.hid HQ.out.1
                         have HQ2 := Lib.hid HQ.out.2.1
                         clear HQ HK bl hglt d0 d1 d2 t0
                         generalize (w12.alloc (.cells #[.slice B5 n5 c5] 28)) = w9 at *
                         generalize w12.heap.size = G11 at *)
                      have hta := HK9.out.ta
                      have t0 := hta.c0
                      have t1 := hta.fz 0
                      have u0 := HQ1.out.c0
                      have hga := grown_cell w9 G7 0 (.slice B5 n5 c5)
                      have HKN : Hid (HunkS w (w9.setCell ⟨G7, 0, none⟩ (.slice B5 n5 c5)) G7 B5 n5 c5 [(p.data.toList, false, refApp la ((hunks la lb).drop k))] (some ⟨b, off, none⟩) hs) := ⟨tree_c.set HQ2.out hta hga, hta.set B5 n5 c5, hks_set HK9.out.hs hta hga, below_set HK9.out.below HG7.out HK9.out.below.size⟩
                      clear hta hga HK9 HQ1 HQ2
                      go_wp2
                      go_roundw
                      case rel => exact ⟨k, B5, n5, c5, by omega, by go_num, HKN⟩
                      case measure => simp [intOf]
              · have e1 : (kb == 0) = false := by simpa using hkb0
                have e2 : (kb != 0) = true := by simpa using hkb0
                go_wp2_with fail
                refine (CA.out _ HB4.out).mono ?_
                rintro e wk ⟨rfl, hbk⟩
                have HB := Lib.hid ((HB4.out : Below w.heap.size w _).trans (hbk.mono (HB4.out : Below w.heap.size w _).size))
                clear hbk
                go_wp2
                go_ret
                exact ⟨rfl, HB.out⟩
            · have e1 : (ka == 0) = false := by simpa using hka0
              have e2 : (ka != 0) = true := by simpa using hka0
              go_wp2_with fail
              refine (CA.out _ HB3.out).mono ?_
              rintro e wk ⟨rfl, hbk⟩
              have HB := Lib.hid ((HB3.out : Below w.heap.size w _).trans (hbk.mono (HB3.out : Below w.heap.size w _).size))
              clear hbk
              go_wp2
              go_ret
              exact ⟨rfl, HB.out⟩
      · have e1 : ((nn : Int) == 1) = false := by simp; omega
        have e2 : ((nn : Int) != 1) = true := by simp; omega
        go_wp2_with fail
        refine (CA.out _ HB2.out).mono ?_
        rintro e wk ⟨rfl, hbk⟩
        have HB := Lib.hid ((HB2.out : Below w.heap.size w _).trans (hbk.mono (HB2.out : Below w.heap.size w _).size))
        clear hbk
        go_wp2
        go_ret
        exact ⟨rfl, HB.out⟩
end Go.Proofs.YtaepfahpbnpeiaaGreatDoor
