
/- The law IdentTexts, over package ident's calls. -/
import Derived.Test.YthenlajknoddcaaDoorIdRowsLaw
namespace Go.Proofs.YthenlajknoddcaaDoor
open Go.RowKit
set_option linter.unusedVariables false

theorem textK_size {k : Ik} (h : okK k = true) : k.1.length ≤ (textK k).length := by
  rw [textK_ok h, List.length_append]
  omega
theorem digits_seven {n : Nat} (h : n < 10000000) : (digits n).length ≤ 7 := by
  have key : ∀ (k n : Nat), n < 10 ^ (k + 1) → (digits n).length ≤ k + 1 := by
    intro k
    induction k with
    | zero => intro n h; rw [digits_lt (show n < 10 from h)]; simp
    | succ k ih =>
      intro n h
      by_cases h0 : n < 10
      · rw [digits_lt h0]; simp
      · rw [digits_ge h0, List.length_append]
        have := ih (n / 10) (by rw [Nat.pow_succ] at h; omega)
        simp only [List.length_cons, List.length_nil]
        omega
  exact key 6 n (Nat.lt_of_lt_of_le h (by decide))
theorem size_len (s : ByteArray) : s.data.toList.length = s.size := by rw [Array.length_toList]; rfl
set_option maxHeartbeats 4000000 in
set_option maxRecDepth 100000 in
theorem identtexts_any (x : Im) (s : ByteArray) (w : World) (C : IdC w) (ox : x.Ok) (os : s.size ≤ 9223372036854775807) :
    Calls Tryd.prog 3 #[x.val, .string s] w fun e w' => e = .returned (.bool true) ∧ Below w.heap.size w w' := by
  obtain ⟨hb0, hx0⟩ := id_box w x
  have HB0 := Lib.hid hb0
  have HX0 := Lib.hid hx0
  have os1 := ox.1
  unfold Im.val
  clear hb0 hx0
  by_cases h1 : 100 < x.p.size
  · have g1 : (100 : Int) < (x.p.size : Int) := by omega
    have g2 : (x.p.size : Int) > 100 := g1
    go_enter Tryd.func3, Tryd.ntmps3
    have c0 := id_c0 HX0.out
    have c1 := id_c1 HX0.out
    go_wp2_with fail
    generalize (w.alloc (.cells #[.string x.p, .int .i64 x.n] 23)) = w1 at *
    refine (idawake_any C _ HB0.out).mono ?_
    rintro e wz ⟨rfl, hb⟩
    have HB := Lib.hid (HB0.out.trans (hb.mono HB0.out.size))
    clear hb c0 c1
    go_wp2
    go_ret
    exact ⟨rfl, HB.out⟩
  have g1 : ¬ (100 : Int) < (x.p.size : Int) := by omega
  have g2 : ¬ (x.p.size : Int) > 100 := g1
  by_cases h2 : 100 < s.size
  · have g3 : (100 : Int) < (s.size : Int) := by omega
    have g4 : (s.size : Int) > 100 := g3
    go_enter Tryd.func3, Tryd.ntmps3
    have c0 := id_c0 HX0.out
    have c1 := id_c1 HX0.out
    go_wp2_with fail
    generalize (w.alloc (.cells #[.string x.p, .int .i64 x.n] 23)) = w1 at *
    refine (idawake_any C _ HB0.out).mono ?_
    rintro e wz ⟨rfl, hb⟩
    have HB := Lib.hid (HB0.out.trans (hb.mono HB0.out.size))
    clear hb c0 c1
    go_wp2
    go_ret
    exact ⟨rfl, HB.out⟩
  have g3 : ¬ (100 : Int) < (s.size : Int) := by omega
  have g4 : ¬ (s.size : Int) > 100 := g3
  go_enter Tryd.func3, Tryd.ntmps3
  have c0 := id_c0 HX0.out
  have c1 := id_c1 HX0.out
  go_wp2_with fail
  generalize (w.alloc (.cells #[.string x.p, .int .i64 x.n] 23)) = w1 at *
  refine (C.text x _ HB0.out (by omega)).mono ?_
  rintro e w2 ⟨rfl, hb⟩
  have HX := Lib.hid (HX0.out.on hb)
  have HB := Lib.hid (HB0.out.trans (hb.mono HB0.out.size))
  clear hb c0 c1 HB0
  generalize hg : w.heap.size = g1 at HX0 HX
  clear hg HX0
  have x0 := id_c0 HX.out
  have x1 := id_c1 HX.out
  have HKS : Hid (∀ W, Below w2.heap.size w2 W → W.cell? ⟨g1, 0, none⟩ = some (.string x.p) ∧ W.cell? ⟨g1, 1, none⟩ = some (.int .i64 x.n)) := fun W hW => ⟨cell_on x0 hW, cell_on x1 hW⟩
  have HDR : Hid (Below w2.heap.size w2 w2.drew) := (Below.refl _ _).drew
  have HR1 : Hid (∀ W, Below w2.heap.size w2 W → Calls Tryd.prog 7 #[.agg #[.string x.p, .int .i64 x.n]] W fun e w' => e = .returned (.bool (okK x.key)) ∧ Below W.heap.size W w') := fun W _ => C.right x W (by omega)
  have HR2 : Hid (∀ W, Below w2.heap.size w2 W → Calls Tryd.prog 8 #[.agg #[.string x.p, .int .i64 x.n]] W fun e w' => e = .returned (.bool (okK x.key)) ∧ Below W.heap.size W w') := fun W _ => refiright_any x W (by omega)
  have HR3 : Hid (∀ W, Below w2.heap.size w2 W → Calls Tryd.prog 9 #[.agg #[.string x.p, .int .i64 x.n]] W fun e w' => e = .returned (.string (toB (textK x.key))) ∧ Below W.heap.size W w') := fun W _ => refitext_any x W (by omega)
  clear x0 x1
  -- @P1
  go_upto_region 4 with (fail)
  go_cut [32] from 10 (fun bv wx => bv = .bool false ∧ Hid (Below w2.heap.size w2 wx))
  case first =>
    generalize textK x.key = tt at *
    generalize okK x.key = bb at *
    refine wp_region_noPanic ?_
    refine wp_region_held_drew (S := (fun w' => w'.cell? ⟨g1, 0, none⟩ = some (.string x.p) ∧ w'.cell? ⟨g1, 1, none⟩ = some (.int .i64 x.n))) (by kernel_rfl) (HKS.out _ HDR.out) (fun hHeld => ?_)
    refine wpAnyH_take (i := 0) (oi := { dst := some 22, op := _, type := _, pos := _, after := _, guard := _ }) (v := .agg #[.string x.p, .int .i64 x.n]) rfl (by kernel_rfl) (by kernel_rfl) (by kernel_rfl) (fun _ _ _ h => h) (Or.inl ⟨by rfl, fun w' hSw => ?_⟩) (by assumption) ?_
    · ((try dsimp only at hSw); go_simp)
    try simp only [Act.put, List.setIfInBounds_toArray, List.set_cons_zero, List.set_cons_succ]
    refine wpAnyH_take (i := 2) (oi := { dst := some 24, op := _, type := _, pos := _, after := _, guard := _ }) (v := .agg #[.string x.p, .int .i64 x.n]) rfl (by kernel_rfl) (by kernel_rfl) (by kernel_rfl) (fun _ _ _ h => h) (Or.inl ⟨by rfl, fun w' hSw => ?_⟩) (by assumption) ?_
    · ((try dsimp only at hSw); go_simp)
    try simp only [Act.put, List.setIfInBounds_toArray, List.set_cons_zero, List.set_cons_succ]
    refine wpAnyH_ready (rs := [1]) (by kernel_rfl) (by simp) ?_
    refine AllReadyH.cons rfl (fun K hK => ?_) AllReadyH.nil
    go_simp
    go_at_call 7
    refine (HR1.out _ HDR.out).mono ?_
    rintro e wl1 ⟨rfl, hb⟩
    have XB1 := Lib.hid (HDR.out.trans (hb.mono HDR.out.size))
    clear hb
    refine hK.out _ _ (HKS.out _ XB1.out) (fun hHeld1 => ?_)
    clear hK K hHeld
    try simp only [Act.put, List.setIfInBounds_toArray, List.set_cons_zero, List.set_cons_succ]
    refine wpAnyH_ready (rs := [3]) (by kernel_rfl) (by simp) ?_
    refine AllReadyH.cons rfl (fun K hK => ?_) AllReadyH.nil
    go_simp
    go_at_call 8
    refine (HR2.out _ XB1.out).mono ?_
    rintro e wl3 ⟨rfl, hb⟩
    have XB3 := Lib.hid (XB1.out.trans (hb.mono XB1.out.size))
    clear hb
    refine hK.out _ _ (HKS.out _ XB3.out) (fun hHeld3 => ?_)
    clear hK K hHeld1
    try simp only [Act.put, List.setIfInBounds_toArray, List.set_cons_zero, List.set_cons_succ]
    refine wpAnyH_take (i := 4) (oi := { dst := some 26, op := _, type := _, pos := _, after := _, guard := _ }) (v := .bool false) rfl (by kernel_rfl) (by kernel_rfl) (by kernel_rfl) (fun _ _ _ h => h) (Or.inl ⟨by rfl, fun w' hSw => ?_⟩) (by assumption) ?_
    · ((try dsimp only at hSw); go_simp)
    try simp only [Act.put, List.setIfInBounds_toArray, List.set_cons_zero, List.set_cons_succ]
    refine wpAnyH_take (i := 5) (oi := { dst := some 27, op := _, type := _, pos := _, after := _, guard := _ }) (v := .bool false) rfl (by kernel_rfl) (by kernel_rfl) (by kernel_rfl) (fun _ _ _ h => h) (Or.inl ⟨by rfl, fun w' hSw => ?_⟩) (by assumption) ?_
    · ((try dsimp only at hSw); go_simp)
    try simp only [Act.put, List.setIfInBounds_toArray, List.set_cons_zero, List.set_cons_succ]
    refine wpAnyH_take (i := 6) (oi := { dst := some 28, op := _, type := _, pos := _, after := _, guard := _ }) (v := .string (toB tt)) rfl (by kernel_rfl) (by kernel_rfl) (by kernel_rfl) (fun _ _ _ h => h) (Or.inl ⟨by rfl, fun w' hSw => ?_⟩) (by assumption) ?_
    · ((try dsimp only at hSw); go_simp)
    try simp only [Act.put, List.setIfInBounds_toArray, List.set_cons_zero, List.set_cons_succ]
    refine wpAnyH_take (i := 7) (oi := { dst := some 29, op := _, type := _, pos := _, after := _, guard := _ }) (v := .agg #[.string x.p, .int .i64 x.n]) rfl (by kernel_rfl) (by kernel_rfl) (by kernel_rfl) (fun _ _ _ h => h) (Or.inl ⟨by rfl, fun w' hSw => ?_⟩) (by assumption) ?_
    · ((try dsimp only at hSw); go_simp)
    try simp only [Act.put, List.setIfInBounds_toArray, List.set_cons_zero, List.set_cons_succ]
    refine wpAnyH_ready (rs := [8]) (by kernel_rfl) (by simp) ?_
    refine AllReadyH.cons rfl (fun K hK => ?_) AllReadyH.nil
    go_simp
    go_at_call 9
    refine (HR3.out _ XB3.out).mono ?_
    rintro e wl8 ⟨rfl, hb⟩
    have XB8 := Lib.hid (XB3.out.trans (hb.mono XB3.out.size))
    clear hb
    refine hK.out _ _ (HKS.out _ XB8.out) (fun hHeld8 => ?_)
    clear hK K hHeld3
    try simp only [Act.put, List.setIfInBounds_toArray, List.set_cons_zero, List.set_cons_succ]
    refine wpAnyH_take (i := 9) (oi := { dst := some 31, op := _, type := _, pos := _, after := _, guard := _ }) (v := .bool false) rfl (by kernel_rfl) (by kernel_rfl) (by kernel_rfl) (fun _ _ _ h => h) (Or.inl ⟨by rfl, fun w' hSw => ?_⟩) (by assumption) ?_
    · ((try dsimp only at hSw); go_simp)
    try simp only [Act.put, List.setIfInBounds_toArray, List.set_cons_zero, List.set_cons_succ]
    refine wpAnyH_take (i := 10) (oi := { dst := some 32, op := _, type := _, pos := _, after := _, guard := _ }) (v := .bool false) rfl (by kernel_rfl) (by kernel_rfl) (by kernel_rfl) (fun _ _ _ h => h) (Or.inl ⟨by rfl, fun w' hSw => ?_⟩) (by assumption) ?_
    · ((try dsimp only at hSw); go_simp)
    try simp only [Act.put, List.setIfInBounds_toArray, List.set_cons_zero, List.set_cons_succ]
    refine wpAnyH_done (by kernel_rfl) ?_ _
    refine NoPanic.normal ?_
    go_wp2_with fail
    go_meet
    case rel => exact ⟨rfl, XB8.out⟩
  case rest =>
    obtain ⟨rfl, HQ⟩ := hcut
    have hbq := HQ.out
    replace HX := Lib.hid (HX.out.on hbq)
    replace HB := Lib.hid (HB.out.trans (hbq.mono HB.out.size))
    clear HQ hbq HKS HDR HR1 HR2 HR3
    generalize wc = w3 at *
    -- @P2
    cases hk : okK x.key
    · -- @U1
      rw [textK_no hk, show toB [] = ⟨#[]⟩ from rfl]
      clear hk HX
      -- @U3
      go_wp2_with fail
      -- @U5
      refine (C.parse s _ HB.out (by omega)).mono ?_
      rintro e w5 ⟨z, f, rfl, hp, hb⟩
      have HB5 := Lib.hid (HB.out.trans (hb.mono HB.out.size))
      obtain ⟨hbz, hz⟩ := id_box w5 z
      have HB6 := Lib.hid (HB5.out.trans (hbz.mono HB5.out.size))
      have HZ := Lib.hid hz
      clear hb hbz hz HB HB5
      -- @T1
      unfold Im.val
      rcases hp.out with ⟨hf, hok, htx⟩ | ⟨hf, hz0, _⟩
      · -- @T2
        subst hf
        have hzs : z.p.size ≤ 100 := by
          have h9 := textK_size hok
          rw [htx, size_len] at h9
          have h8 : z.key.1.length = z.p.size := size_len z.p
          omega
        have hts : toB (textK z.key) = s := by rw [htx, toB_of]
        have hne : s ≠ ⟨#[]⟩ := fun e => textK_ne hok (by rw [htx, e])
        have n1 := str_ne_empty hne
        have HT : Hid (∀ W, Calls Tryd.prog 9 #[.agg #[.string z.p, .int .i64 z.n]] W fun e w' => e = .returned (.string s) ∧ Below W.heap.size W w') := fun W => by
          have h := refitext_any z W (by omega)
          rw [show toB (textI (fun l => rightB (toB l)) z.key) = s from hts] at h
          exact h
        clear hp hok htx hzs hts hne
        -- @T4
        go_wp2_with fail
        generalize (w5.alloc (.cells #[.string z.p, .int .i64 z.n] 23)) = w6 at *
        refine (idawake_any C _ HB6.out).mono ?_
        rintro e w7 ⟨rfl, hb⟩
        have hz7 := HZ.out.on hb
        have z0 := id_c0 hz7
        have z1 := id_c1 hz7
        have HB7 := Lib.hid (HB6.out.trans (hb.mono HB6.out.size))
        clear hb hz7 HZ HB6
        -- @T5
        go_wp2_with fail
        refine (HT.out _).mono ?_
        rintro e w8 ⟨rfl, hb⟩
        have HB8 := Lib.hid (HB7.out.trans (hb.mono HB7.out.size))
        clear hb HB7 HT z0 z1
        go_wp2
        go_ret
        exact ⟨rfl, HB8.out⟩
      · -- @T3
        subst hf
        obtain rfl : z = ⟨⟨#[]⟩, 0⟩ := Im.key_inj hz0
        have EQ := fun W => eql_id ⟨⟨#[]⟩, 0⟩ ⟨⟨#[]⟩, 0⟩ W
        rw [decide_eq_true rfl] at EQ
        clear hp hz0
        go_wp2_with fail
        generalize (w5.alloc (.cells #[.string ⟨#[]⟩, .int .i64 0] 23)) = w6 at *
        refine (idawake_any C _ HB6.out).mono ?_
        rintro e w7 ⟨rfl, hb⟩
        have hz7 := HZ.out.on hb
        have z0 := id_c0 hz7
        have z1 := id_c1 hz7
        have HB7 := Lib.hid (HB6.out.trans (hb.mono HB6.out.size))
        clear hb hz7 HZ HB6
        go_wp2
        go_ret
        exact ⟨rfl, HB7.out⟩
    · -- @U2
      have hne : toB (textK x.key) ≠ ⟨#[]⟩ := fun e => textK_ne hk (toB_inj (m := []) e)
      have n1 := str_ne_empty hne
      have hts : (toB (textK x.key)).size ≤ 1000000 := by
        rw [toB_size, textK_ok hk, List.length_append, List.length_cons]
        have h9 := digits_len x.key.2.toNat
        have h8 := okK_n hk
        have h7 : x.key.1.length = x.p.size := size_len x.p
        have h6 : (digits x.key.2.toNat).length ≤ 7 := digits_seven (by omega)
        omega
      have CP := Lib.hid (C.parse (toB (textK x.key)))
      -- @U4
      go_wp2_with fail
      refine (CP.out _ HB.out hts).mono ?_
      rintro e w4 ⟨y, er, rfl, hp, hb⟩
      have hp1 := hp.out
      rw [of_toB] at hp1
      obtain ⟨he, hy⟩ := parse_text hk hp1
      subst he
      obtain rfl : y = x := Im.key_inj hy
      have hX4 := HX.out.on hb
      have HB4 := Lib.hid (HB.out.trans (hb.mono HB.out.size))
      obtain ⟨hby, hY⟩ := id_box w4 y
      have hX5 := hX4.on hby
      have x0 := id_c0 hX5
      have x1 := id_c1 hX5
      have y0 := id_c0 hY
      have y1 := id_c1 hY
      have EQ := fun W => neq_id y y W
      rw [decide_eq_true rfl, Bool.not_true] at EQ
      replace HB := Lib.hid (HB4.out.trans (hby.mono HB4.out.size))
      clear hp hp1 hb hX4 HB4 hby hX5 hY hy HX CP hts hne hk
      generalize textK y.key = tt at *
      -- @P3
      unfold Im.val
      go_wp2_with fail
      -- @U5
      refine (C.parse s _ HB.out (by omega)).mono ?_
      rintro e w5 ⟨z, f, rfl, hp, hb⟩
      have HB5 := Lib.hid (HB.out.trans (hb.mono HB.out.size))
      obtain ⟨hbz, hz⟩ := id_box w5 z
      have HB6 := Lib.hid (HB5.out.trans (hbz.mono HB5.out.size))
      have HZ := Lib.hid hz
      clear hb hbz hz HB HB5
      -- @T1
      unfold Im.val
      rcases hp.out with ⟨hf, hok, htx⟩ | ⟨hf, hz0, _⟩
      · -- @T2
        subst hf
        have hzs : z.p.size ≤ 100 := by
          have h9 := textK_size hok
          rw [htx, size_len] at h9
          have h8 : z.key.1.length = z.p.size := size_len z.p
          omega
        have hts : toB (textK z.key) = s := by rw [htx, toB_of]
        have hne : s ≠ ⟨#[]⟩ := fun e => textK_ne hok (by rw [htx, e])
        have n1 := str_ne_empty hne
        have HT : Hid (∀ W, Calls Tryd.prog 9 #[.agg #[.string z.p, .int .i64 z.n]] W fun e w' => e = .returned (.string s) ∧ Below W.heap.size W w') := fun W => by
          have h := refitext_any z W (by omega)
          rw [show toB (textI (fun l => rightB (toB l)) z.key) = s from hts] at h
          exact h
        clear hp hok htx hzs hts hne
        -- @T4
        go_wp2_with fail
        generalize (w5.alloc (.cells #[.string z.p, .int .i64 z.n] 23)) = w6 at *
        refine (idawake_any C _ HB6.out).mono ?_
        rintro e w7 ⟨rfl, hb⟩
        have hz7 := HZ.out.on hb
        have z0 := id_c0 hz7
        have z1 := id_c1 hz7
        have HB7 := Lib.hid (HB6.out.trans (hb.mono HB6.out.size))
        clear hb hz7 HZ HB6
        -- @T5
        go_wp2_with fail
        refine (HT.out _).mono ?_
        rintro e w8 ⟨rfl, hb⟩
        have HB8 := Lib.hid (HB7.out.trans (hb.mono HB7.out.size))
        clear hb HB7 HT z0 z1
        go_wp2
        go_ret
        exact ⟨rfl, HB8.out⟩
      · -- @T3
        subst hf
        obtain rfl : z = ⟨⟨#[]⟩, 0⟩ := Im.key_inj hz0
        have EQ := fun W => eql_id ⟨⟨#[]⟩, 0⟩ ⟨⟨#[]⟩, 0⟩ W
        rw [decide_eq_true rfl] at EQ
        clear hp hz0
        go_wp2_with fail
        generalize (w5.alloc (.cells #[.string ⟨#[]⟩, .int .i64 0] 23)) = w6 at *
        refine (idawake_any C _ HB6.out).mono ?_
        rintro e w7 ⟨rfl, hb⟩
        have hz7 := HZ.out.on hb
        have z0 := id_c0 hz7
        have z1 := id_c1 hz7
        have HB7 := Lib.hid (HB6.out.trans (hb.mono HB6.out.size))
        clear hb hz7 HZ HB6
        go_wp2
        go_ret
        exact ⟨rfl, HB7.out⟩
end Go.Proofs.YthenlajknoddcaaDoor
