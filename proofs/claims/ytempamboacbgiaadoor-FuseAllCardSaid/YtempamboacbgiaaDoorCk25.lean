/- A row of steps put behind an own row of steps. FuseAll. -/
import Derived.Test.YtempamboacbgiaaDoorCk04
import Derived.Test.YtempamboacbgiaaDoorCk03
import Derived.Test.YtempamboacbgiaaDoorCk06
import Derived.Laws.AppendOwnNone
import Derived.OwnWalk
import Derived.Test.YtempamboacbgiaaDoorCk20
import Derived.Test.YtempamboacbgiaaDoorCk22
import Derived.Deep.RegionHeld3
namespace Go.Proofs.YtempamboacbgiaaDoor
open Go.RowKit
set_option linter.unusedVariables false

/-- The cells of steps that lie at A, one by one. -/
theorem Ps.news {w : World} {B : Nat} {A : Option Addr} {ps : List Pm} (k : Ps w B A ps) (hp : 0 < ps.length) : ∃ b off, A = some ⟨b, off, none⟩ ∧ ∀ j u, (pcells ps)[j]? = some u → w.cell? ((⟨b, off, none⟩ : Addr).add j) = some u := by
  obtain ⟨b, off, e, _, hc⟩ := k.at_ hp
  refine ⟨b, off, e, fun j u hu => ?_⟩
  have hj : j < ps.length * 6 := by
    have := (List.getElem?_eq_some_iff.1 hu).1
    rw [pcells_len] at this
    exact this
  have hq : j / 6 < ps.length := by omega
  obtain ⟨c0, c1, c2, c3, c4, c5⟩ := hc (j / 6) hq
  obtain ⟨d0, d1, d2, d3, d4, d5⟩ := pcells_get ps (j / 6) hq
  have hadd : (⟨b, off, none⟩ : Addr).add j = ⟨b, off + j, none⟩ := by unfold Addr.add; split <;> simp_all
  rw [hadd]
  have hm : j % 6 = 0 ∨ j % 6 = 1 ∨ j % 6 = 2 ∨ j % 6 = 3 ∨ j % 6 = 4 ∨ j % 6 = 5 := by omega
  rcases hm with h | h | h | h | h | h
  · have e : j = j / 6 * 6 := by omega
    rw [e] at hu ⊢
    rw [d0] at hu
    rw [← hu]
    have e2 : j / 6 * 6 / 6 = j / 6 := by omega
    exact c0
  · have e : j = j / 6 * 6 + 1 := by omega
    rw [e] at hu ⊢
    rw [d1] at hu
    rw [← hu]
    exact c1
  · have e : j = j / 6 * 6 + 2 := by omega
    rw [e] at hu ⊢
    rw [d2] at hu
    rw [← hu]
    exact c2
  · have e : j = j / 6 * 6 + 3 := by omega
    rw [e] at hu ⊢
    rw [d3] at hu
    rw [← hu]
    exact c3
  · have e : j = j / 6 * 6 + 4 := by omega
    rw [e] at hu ⊢
    rw [d4] at hu
    rw [← hu]
    exact c4
  · have e : j = j / 6 * 6 + 5 := by omega
    rw [e] at hu ⊢
    rw [d5] at hu
    rw [← hu]
    exact c5
theorem pcells_one : ∀ (ps : List Pm), ∀ u ∈ pcells ps, u.oneCell' = true
  | [], u, h => by simp [pcells] at h
  | p :: ps, u, h => by
    have e : pcells (p :: ps) = p.cells ++ pcells ps := by simp [pcells]
    rw [e] at h
    rcases List.mem_append.1 h with h | h
    · simp only [Pm.cells, List.mem_cons, List.not_mem_nil, or_false] at h
      rcases h with rfl | rfl | rfl | rfl | rfl | rfl <;> rfl
    · exact pcells_one ps u h
theorem own_madep (w : World) (B : Nat) (hB : B ≤ w.heap.size) : OwnP (w.alloc (.cells #[] 24)) B (.slice (some ⟨w.heap.size, 0, none⟩) 0 0) [] :=
  w.ownsRow_made #[] 0 hB (Nat.zero_le _) rfl
/-- Steps that lie somewhere, put behind an own row. -/
theorem wpList_append_prims {w : World} {ops : Array Oper} {rest : List Oper} {o : Oper} {a : Act} {Q : Exit → Act → World → Prop} (hgd : o.guard = none) (s x : Operand)
    (ho : o.op = .call { callee := .builtin .append, args := #[s, x], argTypes := #[26, 26] })
    (B : Nat) (v : Value) (hs : List Pm) (hv : a.eval s = v) (hown : OwnP w B v hs) (ps : List Pm) (A : Option Addr) (n c : Nat) (hx : a.eval x = .slice A n c) (hn : n = ps.length) (hnil : A = none → c = 0) (hl : Ps w w.heap.size A ps) (hB : B ≤ w.heap.size) (hle : hs.length + ps.length ≤ 100000)
    (m : Nat) (hm : m = hs.length + ps.length)
    (k : ∀ A' c' w', OwnP w' B (.slice A' m c') (hs ++ ps) → w.grownBy w' v.ownBlock → wpList Tryd.prog ops Q rest (a.put o.dst (.slice A' m c')) w') : wpList Tryd.prog ops Q (o :: rest) a w := by
  obtain ⟨i0, hi, hz0, hz1, hz2⟩ := info_parts info_prim
  subst hn
  subst hm
  have k' : ∀ v' w', OwnP w' B v' (hs ++ ps) → w.grownBy w' v.ownBlock → wpList Tryd.prog ops Q rest (a.put o.dst v') w' := by
    intro v' w' ho' hg
    have h' := ho'
    rcases ho'.2 with ⟨he, h0⟩ | ⟨g, cap, cur, he, _, _, _, _, _, _⟩
    · have h00 : hs.length + ps.length = 0 := by rw [← List.length_append]; exact h0
      subst he
      have := k none 0 w' (by rw [h00]; exact h') hg
      rw [h00] at this
      exact this
    · rw [List.length_append] at he
      subst he
      exact k _ cap w' h' hg
  cases A with
  | none =>
    have h0 : ps = [] := by
      cases ps with
      | nil => rfl
      | cons y r => exact absurd (hl.at_ (by simp)) (by rintro ⟨_, _, e, _⟩; cases e)
    subst h0
    rw [hnil rfl] at hx
    refine wpList_append_own_none hgd s x 26 ho B 24 i0 6 Tryd.underlying26 hi v _ _ hv hown hx ?_
    exact k' v w (by simpa using hown) ⟨rfl, rfl, rfl, Nat.le_refl _, fun _ _ _ => rfl⟩
  | some ad =>
    refine wpList_append_own w hgd s x 26 ho B 24 i0 _ 6 96 Tryd.underlying26 hi hz0 hz1 hz2 rfl (by decide) v hs.length (pcells hs) hv hown ad ps.length c (pcells ps) hx (pcells_len ps) ?_ (pcells_one ps) (by unfold maxLen; omega) (by omega) hB ?_
    · intro j u hu
      have hj : j < ps.length * 6 := by
        have := (List.getElem?_eq_some_iff.1 hu).1
        rw [pcells_len] at this
        exact this
      obtain ⟨b, off, e, hnews⟩ := hl.news (by omega)
      simp only [Option.some.injEq] at e
      subst e
      exact hnews j u hu
    · intro v' w' hown' hgrow _
      refine k' v' w' ?_ hgrow
      unfold OwnP
      rw [List.length_append, pcells_app]
      exact hown'
/-- A row of steps, none of them far too long. -/
structure RowI (W : World) (A : Option Addr) (n c : Nat) (qs : List Pm) : Prop where
  len : n = qs.length
  at_ : Ps W W.heap.size A qs
  room : Room A n c
  fz : ∀ z ∈ qs, FzK z.key
theorem RowI.on {W W' : World} {A : Option Addr} {n c : Nat} {qs : List Pm} (h : RowI W A n c qs) (hb : Below W.heap.size W W') : RowI W' A n c qs := ⟨h.len, h.at_.on hb, h.room, h.fz⟩
theorem RowI.nil (W : World) : RowI W none 0 0 [] := ⟨rfl, Ps.nil, ⟨fun _ => rfl, Nat.le_refl _⟩, fun z h => by cases h⟩
theorem RowI.of_own {W : World} {B n c : Nat} {A : Option Addr} {qs : List Pm} (h : OwnP W B (.slice A n c) qs) (hok : ∀ z ∈ qs, z.Ok W W.heap.size) (hf : ∀ z ∈ qs, FzK z.key) : RowI W A n c qs := by
  obtain ⟨A', c', e, h1, h2⟩ := h.ps hok
  simp only [Value.slice.injEq] at e
  obtain ⟨rfl, rfl, rfl⟩ := e
  exact ⟨rfl, h1, h2, hf⟩
theorem RowI.take {W : World} {A : Option Addr} {n c : Nat} {qs : List Pm} (h : RowI W A n c qs) (m : Nat) (hm : m ≤ n) : RowI W A m c (qs.take m) := by
  refine ⟨by rw [List.length_take, ← h.len]; omega, ⟨fun hp => ?_, fun z hz => h.at_.ok z (List.mem_of_mem_take hz)⟩, ⟨h.room.1, Nat.le_trans hm h.room.2⟩, fun z hz => h.fz z (List.mem_of_mem_take hz)⟩
  rw [List.length_take] at hp
  obtain ⟨b, off, e, hb, hc⟩ := h.at_.at_ (by omega)
  refine ⟨b, off, e, hb, fun j hj => ?_⟩
  rw [List.length_take] at hj
  rw [List.getElem_take]
  exact hc j (by omega)
theorem RowI.one {W : World} {b off n c : Nat} {qs : List Pm} (h : RowI W (some ⟨b, off, none⟩) n c qs) {k : Nat} (hk : k < qs.length) : RowI W (some ⟨b, off + k * 6, none⟩) 1 (c - k) [qs[k]] := by
  obtain ⟨b', off', e, hb, hc⟩ := h.at_.at_ (by omega)
  cases e
  refine ⟨rfl, ⟨fun _ => ⟨b, off + k * 6, rfl, hb, fun j hj => ?_⟩, fun z hz => ?_⟩, ⟨(fun e => by cases e), ?_⟩, fun z hz => ?_⟩
  · have hj0 : j = 0 := by simpa using hj
    subst hj0
    simpa using hc k hk
  · simp only [List.mem_cons, List.not_mem_nil, or_false] at hz
    subst hz
    exact h.at_.ok _ (List.getElem_mem _)
  · have := h.room.2
    have := h.len
    omega
  · simp only [List.mem_cons, List.not_mem_nil, or_false] at hz
    subst hz
    exact h.fz _ (List.getElem_mem _)
theorem run_slice_prim_one (b off n cap k : Nat) (w : World) (hk : k < n) (hn : n ≤ cap) :
    (Instr.slice 26 (.slice (some ⟨b, off, none⟩) n cap) (some (.int .i64 (k : Int))) (some (.int .i64 ((k : Int) + 1))) none).run Tryd.prog w = .ok (.slice (some ⟨b, off + k * 6, none⟩) 1 (cap - k)) w := by
  have hb : ∀ w, (Instr.sliceBounds true n cap (some (.int .i64 (k : Int))) (some (.int .i64 ((k : Int) + 1))) none).run Tryd.prog w = .ok (k, k + 1, cap) w := by
    intro w
    have h1 : (k : Int) + 1 ≤ (cap : Int) := by omega
    have h2 : ((k : Int) + 1).toNat = k + 1 := by omega
    simp [Instr.sliceBounds, Instr.sliceBound, asIntOf, go_sem, h2] <;> intros <;> omega
  obtain ⟨d, hd, hs⟩ : ∃ d, Tryd.prog.info? 24 = some d ∧ d.size = 6 := by
    have := sized_prim
    cases h : Tryd.prog.info? 24 with
    | none => rw [h] at this; cases this
    | some d => rw [h] at this; exact ⟨d, rfl, by simpa using this⟩
  unfold Instr.slice
  rw [Sem.run_bind, run_underlying Tryd.underlying26, Result.andThen_ok]
  simp only []
  rw [Sem.run_bind, hb, Result.andThen_ok]
  have hc : ¬ cap = k := by omega
  simp [sizeOf, typeInfo, hd, hs, Sem.run_bind, add_row, show k + 1 - k = 1 by omega, hc]
end Go.Proofs.YtempamboacbgiaaDoor
namespace Go.Proofs.YtempamboacbgiaaDoor
open Go.RowKit
set_option linter.unusedVariables false

/-- What is left, and what is pending, come to st. -/
def leftP (qs rs st : List Pk) : Prop := match rs with
  | [] => qs.reverse = st
  | x :: _ => pushP qs.reverse x = st
theorem foldl_take (s : List Pk) (k : Nat) (h : k < s.length) : (s.take (k + 1)).foldl pushP [] = pushP ((s.take k).foldl pushP []) s[k] := by
  rw [List.take_succ_eq_append_getElem h, List.foldl_append]
  rfl
theorem row_last {qs : List Pm} {m : Nat} (h : qs.length = m + 1) (hm : m < qs.length) : (pkeys qs).reverse = qs[m].key :: (pkeys (qs.take m)).reverse := by
  have e : qs.take (m + 1) = qs := List.take_of_length_le (by omega)
  have := take_rev hm
  rwa [e] at this
set_option maxHeartbeats 40000000 in
set_option maxRecDepth 100000 in
theorem fuseall_any (A : Option Addr) (ps : List Pm) (cap : Nat) (w : World) (hs : Ps w w.heap.size A ps) (hn : ps.length ≤ 9223372036854775807) (hr : Room A ps.length cap) (hT : Tabs w) :
    Calls Tryd.prog 4 #[.slice A ps.length cap] w fun e w' => e = .returned (.bool true) ∧ Below w.heap.size w w' := by
  have CL := light9_any A ps cap w hs hn
  cases h9 : light9B ps
  · rw [h9] at CL
    have CL := Lib.hid CL
    have HT := Lib.hid hT
    clear h9 hs hn hr hT
    go_enter Tryd.func4, Tryd.ntmps4
    go_wp2_with fail
    refine CL.out.mono ?_
    rintro e wl ⟨rfl, rfl⟩
    clear CL
    go_wp2_with fail
    refine (fawake_any _ HT.out).mono ?_
    rintro e wz ⟨rfl, hb⟩
    have HB := Lib.hid hb
    clear hb
    go_wp2
    go_ret
    exact ⟨rfl, HB.out⟩
  rw [h9] at CL
  obtain ⟨h40, hl⟩ := light9_facts h9
  have HS : Hid (RowI w A ps.length cap ps) := ⟨rfl, hs, hr, fun z hz => (hl z hz).1.fz (hl z hz).2⟩
  have HT := Lib.hid hT
  have CL := Lib.hid CL
  have HQL : Hid (∀ (qs : List Pm), (∃ k, k ≤ ps.length ∧ (pkeys qs).length ≤ (((pkeys ps).take k).foldl pushP []).length + 1) → qs.length ≤ 2000) := by
    rintro qs ⟨k, hk, h⟩
    have h1 := fold_len ((pkeys ps).take k) []
    rw [List.length_take, pkeys_len] at h1
    rw [pkeys_len] at h
    simp only [List.length_nil] at h1
    omega
  clear h9 hl hs hn hr hT
  go_enter Tryd.func4, Tryd.ntmps4
  go_wp2_with fail
  refine CL.out.mono ?_
  rintro e wl ⟨rfl, rfl⟩
  clear CL
  go_wp2
  go_loopw [3, 4] (fun lv iv wr => ∃ (k : Nat) (A1 : Option Addr) (n1 c1 : Nat) (qs : List Pm), lv = .slice A1 n1 c1 ∧ iv = .int .i64 (k : Int) ∧ k ≤ ps.length ∧ Hid (RowI wr A1 n1 c1 qs ∧ (pkeys qs).reverse = ((pkeys ps).take k).foldl pushP [] ∧ Below w.heap.size w wr)) (fun _ iv _ => ps.length - (intOf iv).toNat)
  case atStart => exact ⟨0, none, 0, 0, [], rfl, rfl, Nat.zero_le _, RowI.nil _, rfl, Below.refl _ _⟩
  case round =>
    obtain ⟨k, A1, n1, c1, qs, rfl, rfl, hk, HI⟩ := hrel
    by_cases hlt : k < ps.length
    · obtain ⟨b, off, rfl, _⟩ := HS.out.at_.get hlt
      have hsl := Lib.hid (fun W => run_slice_prim_one b off ps.length cap k W hlt HS.out.room.2)
      have hk1 : IntKind.i64.wrap ((k : Int) + 1) = (k : Int) + 1 := IntWalk.i64_in _ (by omega)
      have HX : Hid (RowI wr (some ⟨b, off + k * 6, none⟩) 1 (cap - k) [ps[k]]) := (HS.out.on HI.out.2.2).one hlt
      have HI2 : Hid (leftP (pkeys qs) (pkeys [ps[k]]) (((pkeys ps).take (k + 1)).foldl pushP [])) := by
        show pushP (pkeys qs).reverse ps[k].key = _
        rw [foldl_take _ _ (by rw [pkeys_len]; exact hlt), HI.out.2.1]
        simp [pkeys]
      generalize ps[k] = x0 at *
      have hsl' := hsl.out
      go_wp2
      go_loopw [3, 5] (fun lv nv wz => ∃ (A1 : Option Addr) (n1 c1 : Nat) (qs : List Pm) (A2 : Option Addr) (n2 c2 : Nat) (rs : List Pm), lv = .slice A1 n1 c1 ∧ nv = .slice A2 n2 c2 ∧ n2 ≤ 1 ∧ Hid (RowI wz A1 n1 c1 qs ∧ RowI wz A2 n2 c2 rs ∧ leftP (pkeys qs) (pkeys rs) (((pkeys ps).take (k + 1)).foldl pushP []) ∧ Below w.heap.size w wz ∧ ∃ k, k ≤ ps.length ∧ (pkeys qs).length ≤ (((pkeys ps).take k).foldl pushP []).length + 1)) (fun lv _ _ => match lv with | .slice _ n _ => n | _ => 0)
      case atStart => exact ⟨A1, n1, c1, qs, _, 1, _, [x0], rfl, rfl, Nat.le_refl _, HI.out.1, HX.out, HI2.out, HI.out.2.2, k, hk, by have := congrArg List.length HI.out.2.1; rw [List.length_reverse] at this; omega⟩
      case round =>
        clear HI HX HI2 hsl' hsl
        obtain ⟨A1, n1, c1, qs, A2, n2, c2, rs, rfl, rfl, hn2, HJ⟩ := hrel
        have HQW := Lib.hid HJ.out.1
        rcases Nat.eq_zero_or_pos n2 with h0 | h0
        · subst h0
          have hrs : rs = [] := List.length_eq_zero_iff.1 HJ.out.2.1.len.symm
          subst hrs
          have hal : Below wr.heap.size wr (wr.alloc (.cells #[] 24)) := (Below.refl _ _).alloc (Nat.le_refl _) _
          have HW0 := Lib.hid (own_madep wr wr.heap.size (Nat.le_refl _))
          have HQ1 := Lib.hid (HJ.out.1.on hal)
          have HRW := Lib.hid HJ.out.2.1
          have HKEY : Hid ((pkeys (qs ++ ([] : List Pm))).reverse = ((pkeys ps).take (k + 1)).foldl pushP []) := by show _ = _; rw [List.append_nil]; exact HJ.out.2.2.1
          have HBEL := Lib.hid HJ.out.2.2.2.1
          have HALL := Lib.hid hal
          obtain ⟨N, hN⟩ : ∃ N, N = ([] : List Pm).length + qs.length := ⟨_, rfl⟩
          have HN := Lib.hid hN
          have HQ40 : Hid (qs.length ≤ 2000) := HQL.out qs HJ.out.2.2.2.2
          have HR1 : Hid (([] : List Pm).length ≤ 1) := by show _ ≤ _; simp
          clear hal hN HJ
          go_wp2_with (at_builtin; refine wpList_append_prims rfl _ _ rfl wr.heap.size (.slice (some ⟨wr.heap.size, 0, none⟩) 0 0) [] rfl HW0.out qs A1 n1 c1 rfl HQ1.out.len HQ1.out.room.1 HQ1.out.at_ HALL.out.size (by have := HQ40.out; simp only [List.length_nil]; omega) N HN.out ?_)
          intro A3 c3 w3 ho3 hg3
          have hb3 : Below wr.heap.size wr w3 := below_appendp HALL.out HW0.out hg3 (Nat.le_refl _)
          have HO3 : Hid (OwnP w3 wr.heap.size (.slice A3 N c3) qs) := ho3
          have HR3 := Lib.hid (HRW.out.on hb3)
          have HB3 := Lib.hid hb3
          obtain ⟨M, hM⟩ : ∃ M, M = qs.length + ([] : List Pm).length := ⟨_, rfl⟩
          have HM := Lib.hid hM
          clear ho3 hg3 hb3 HW0 HALL HQ1 hM
          go_wp2_with (at_builtin; refine wpList_append_prims rfl _ _ rfl wr.heap.size (.slice A3 N c3) qs rfl HO3.out ([] : List Pm) A2 0 c2 rfl HR3.out.len HR3.out.room.1 HR3.out.at_ HB3.out.size (by have := HQ40.out; have := HR1.out; omega) M HM.out ?_)
          intro A4 c4 w4 ho4 hg4
          have hb4 : Below wr.heap.size wr w4 := below_appendp HB3.out HO3.out hg4 (Nat.le_refl _)
          have ho4 : OwnP w4 wr.heap.size (.slice A4 M c4) (qs ++ ([] : List Pm)) := by first | exact ho4 | simpa using ho4
          have HFIN : Hid (RowI w4 A4 M c4 (qs ++ ([] : List Pm)) ∧ (pkeys (qs ++ ([] : List Pm))).reverse = ((pkeys ps).take (k + 1)).foldl pushP [] ∧ Below w.heap.size w w4) := by
            refine ⟨RowI.of_own ho4 (fun z hz => ?_) (fun z hz => ?_), HKEY.out, HBEL.out.trans (hb4.mono HBEL.out.size)⟩
            · rcases List.mem_append.1 hz with h | h
              · exact (HQW.out.at_.ok z h).on hb4
              · exact (HRW.out.at_.ok z h).on hb4
            · rcases List.mem_append.1 hz with h | h
              · exact HQW.out.fz z h
              · exact HRW.out.fz z h
          clear ho4 hg4 hb4 HO3 HR3 HB3 HM HN
          go_wp2
          go_roundw
          case rel => exact ⟨k + 1, A4, M, c4, qs ++ ([] : List Pm), rfl, by go_num, by omega, HFIN.out⟩
          case measure => simp [intOf]; omega
        · obtain rfl : n2 = 1 := by omega
          obtain ⟨x, rfl⟩ : ∃ x, rs = [x] := List.length_eq_one_iff.1 HJ.out.2.1.len.symm
          have hp1 : (0 : Int) < ((1 : Nat) : Int) := by decide
          rcases Nat.eq_zero_or_pos n1 with h1 | h1
          · subst h1
            have hqs : qs = [] := List.length_eq_zero_iff.1 HJ.out.1.len.symm
            subst hqs
            have hal : Below wr.heap.size wr (wr.alloc (.cells #[] 24)) := (Below.refl _ _).alloc (Nat.le_refl _) _
            have HW0 := Lib.hid (own_madep wr wr.heap.size (Nat.le_refl _))
            have HQ1 := Lib.hid (HJ.out.1.on hal)
            have HRW := Lib.hid HJ.out.2.1
            have HKEY : Hid ((pkeys (([] : List Pm) ++ [x])).reverse = ((pkeys ps).take (k + 1)).foldl pushP []) := HJ.out.2.2.1
            have HBEL := Lib.hid HJ.out.2.2.2.1
            have HALL := Lib.hid hal
            obtain ⟨N, hN⟩ : ∃ N, N = ([] : List Pm).length + ([] : List Pm).length := ⟨_, rfl⟩
            have HN := Lib.hid hN
            have HQ40 : Hid (([] : List Pm).length ≤ 2000) := HQL.out ([] : List Pm) HJ.out.2.2.2.2
            have HR1 : Hid ([x].length ≤ 1) := by show _ ≤ _; simp
            clear hal hN HJ
            go_wp2_with (at_builtin; refine wpList_append_prims rfl _ _ rfl wr.heap.size (.slice (some ⟨wr.heap.size, 0, none⟩) 0 0) [] rfl HW0.out ([] : List Pm) A1 0 c1 rfl HQ1.out.len HQ1.out.room.1 HQ1.out.at_ HALL.out.size (by have := HQ40.out; simp only [List.length_nil]; omega) N HN.out ?_)
            intro A3 c3 w3 ho3 hg3
            have hb3 : Below wr.heap.size wr w3 := below_appendp HALL.out HW0.out hg3 (Nat.le_refl _)
            have HO3 : Hid (OwnP w3 wr.heap.size (.slice A3 N c3) ([] : List Pm)) := ho3
            have HR3 := Lib.hid (HRW.out.on hb3)
            have HB3 := Lib.hid hb3
            obtain ⟨M, hM⟩ : ∃ M, M = ([] : List Pm).length + [x].length := ⟨_, rfl⟩
            have HM := Lib.hid hM
            clear ho3 hg3 hb3 HW0 HALL HQ1 hM
            go_wp2_with (at_builtin; refine wpList_append_prims rfl _ _ rfl wr.heap.size (.slice A3 N c3) ([] : List Pm) rfl HO3.out [x] A2 1 c2 rfl HR3.out.len HR3.out.room.1 HR3.out.at_ HB3.out.size (by have := HQ40.out; have := HR1.out; omega) M HM.out ?_)
            intro A4 c4 w4 ho4 hg4
            have hb4 : Below wr.heap.size wr w4 := below_appendp HB3.out HO3.out hg4 (Nat.le_refl _)
            have ho4 : OwnP w4 wr.heap.size (.slice A4 M c4) (([] : List Pm) ++ [x]) := by first | exact ho4 | simpa using ho4
            have HFIN : Hid (RowI w4 A4 M c4 (([] : List Pm) ++ [x]) ∧ (pkeys (([] : List Pm) ++ [x])).reverse = ((pkeys ps).take (k + 1)).foldl pushP [] ∧ Below w.heap.size w w4) := by
              refine ⟨RowI.of_own ho4 (fun z hz => ?_) (fun z hz => ?_), HKEY.out, HBEL.out.trans (hb4.mono HBEL.out.size)⟩
              · rcases List.mem_append.1 hz with h | h
                · exact (HQW.out.at_.ok z h).on hb4
                · exact (HRW.out.at_.ok z h).on hb4
              · rcases List.mem_append.1 hz with h | h
                · exact HQW.out.fz z h
                · exact HRW.out.fz z h
            clear ho4 hg4 hb4 HO3 HR3 HB3 HM HN
            go_wp2
            go_roundw
            case rel => exact ⟨k + 1, A4, M, c4, ([] : List Pm) ++ [x], rfl, by go_num, by omega, HFIN.out⟩
            case measure => simp [intOf]; omega
          · obtain ⟨m, rfl⟩ : ∃ m, n1 = m + 1 := ⟨n1 - 1, by omega⟩
            have hml : m < qs.length := by have := HJ.out.1.len; omega
            obtain ⟨b1, off1, rfl, _, d0, d1, d2, d3, d4, d5⟩ := HJ.out.1.at_.get hml
            obtain ⟨b2, off2, rfl, _, x0', x1, x2, x3, x4, x5⟩ := HJ.out.2.1.at_.get (j := 0) (by simp)
            simp only [List.getElem_cons_zero, Nat.zero_mul, Nat.add_zero] at x0' x1 x2 x3 x4 x5
            have hlast := row_last HJ.out.1.len.symm hml
            obtain ⟨y, hy⟩ : ∃ y, qs[m] = y := ⟨_, rfl⟩
            have hyok := HJ.out.1.at_.ok qs[m] (List.getElem_mem _)
            have hyfz := HJ.out.1.fz qs[m] (List.getElem_mem _)
            rw [hy] at d0 d1 d2 d3 d4 d5 hlast hyok hyfz
            have hxok := HJ.out.2.1.at_.ok x (by simp)
            have hxfz := HJ.out.2.1.fz x (by simp)
            obtain ⟨op, hop⟩ : ∃ o, fuseP y.key x.key = o := ⟨_, rfl⟩
            have HT2 := Lib.hid (Tabs.on HT.out HJ.out.2.2.2.1)
            have CP := Lib.hid (fun W (hb : Below wr.heap.size wr W) => refpair9_any y x W (hyok.on hb) (hxok.on hb) hyfz.at hxfz.at (Tabs.on HT2.out hb))
            rw [hop] at CP
            unfold Pm.val at CP
            have HDR : Hid (Below wr.heap.size wr wr.drew) := (Below.refl _ _).drew
            have HK : Hid (∀ W, Below wr.heap.size wr W → W.cell? ⟨b1, off1 + m * 6, none⟩ = some (.int .i64 y.kind) ∧ W.cell? ⟨b1, off1 + m * 6 + 1, none⟩ = some (.string y.p) ∧ W.cell? ⟨b1, off1 + m * 6 + 2, none⟩ = some (.string y.dst) ∧ W.cell? ⟨b1, off1 + m * 6 + 3, none⟩ = some (.int .i64 y.at_) ∧ W.cell? ⟨b1, off1 + m * 6 + 4, none⟩ = some (.slice y.a1 y.old.length y.c1) ∧ W.cell? ⟨b1, off1 + m * 6 + 5, none⟩ = some (.slice y.a2 y.new.length y.c2) ∧ W.cell? ⟨b2, off2, none⟩ = some (.int .i64 x.kind) ∧ W.cell? ⟨b2, off2 + 1, none⟩ = some (.string x.p) ∧ W.cell? ⟨b2, off2 + 2, none⟩ = some (.string x.dst) ∧ W.cell? ⟨b2, off2 + 3, none⟩ = some (.int .i64 x.at_) ∧ W.cell? ⟨b2, off2 + 4, none⟩ = some (.slice x.a1 x.old.length x.c1) ∧ W.cell? ⟨b2, off2 + 5, none⟩ = some (.slice x.a2 x.new.length x.c2)) := by
              intro W hW
              exact ⟨cell_on d0 hW, cell_on d1 hW, cell_on d2 hW, cell_on d3 hW, cell_on d4 hW, cell_on d5 hW, cell_on x0' hW, cell_on x1 hW, cell_on x2 hW, cell_on x3 hW, cell_on x4 hW, cell_on x5 hW⟩
            have S0 := Lib.hid (HK.out _ HDR.out)
            have hm1 : (0 : Int) ≤ (m : Int) := by omega
            have hm2 : (m : Int) < ((m + 1 : Nat) : Int) := by omega
            have hm40 : m ≤ 2000 := by have := HQL.out qs HJ.out.2.2.2.2; omega
            have hm3 : IntKind.i64.wrap (((m + 1 : Nat) : Int) - 1) = (m : Int) := by
              have e : ((m + 1 : Nat) : Int) - 1 = (m : Int) := by omega
              rw [e]
              exact IntWalk.i64_in _ (by omega)
            have hm4 : (0 : Int) < ((m + 1 : Nat) : Int) := by omega
            have hm6 : IntKind.i64.wrap ((m : Int) + 1 - 1) = (m : Int) := by
              have e : (m : Int) + 1 - 1 = (m : Int) := by omega
              rw [e]
              exact IntWalk.i64_in _ (by omega)
            have hm7 : IntKind.i64.wrap (m : Int) = (m : Int) := IntWalk.i64_in _ (by omega)
            have hm5 : (m : Int) < (m : Int) + 1 := by omega
            have HFX := Lib.hid (⟨hyfz, hxfz⟩ : FzK y.key ∧ FzK x.key)
            have HOP := Lib.hid hop
            have HLA := Lib.hid hlast
            clear d0 d1 d2 d3 d4 d5 x0' x1 x2 x3 x4 x5 hyok hyfz hxok hxfz hop hlast hml hy
            go_wp2_with fail
            go_region_held3 (fun w' => w'.cell? ⟨b1, off1 + m * 6, none⟩ = some (.int .i64 y.kind) ∧ w'.cell? ⟨b1, off1 + m * 6 + 1, none⟩ = some (.string y.p) ∧ w'.cell? ⟨b1, off1 + m * 6 + 2, none⟩ = some (.string y.dst) ∧ w'.cell? ⟨b1, off1 + m * 6 + 3, none⟩ = some (.int .i64 y.at_) ∧ w'.cell? ⟨b1, off1 + m * 6 + 4, none⟩ = some (.slice y.a1 y.old.length y.c1) ∧ w'.cell? ⟨b1, off1 + m * 6 + 5, none⟩ = some (.slice y.a2 y.new.length y.c2) ∧ w'.cell? ⟨b2, off2, none⟩ = some (.int .i64 x.kind) ∧ w'.cell? ⟨b2, off2 + 1, none⟩ = some (.string x.p) ∧ w'.cell? ⟨b2, off2 + 2, none⟩ = some (.string x.dst) ∧ w'.cell? ⟨b2, off2 + 3, none⟩ = some (.int .i64 x.at_) ∧ w'.cell? ⟨b2, off2 + 4, none⟩ = some (.slice x.a1 x.old.length x.c1) ∧ w'.cell? ⟨b2, off2 + 5, none⟩ = some (.slice x.a2 x.new.length x.c2)) (first
              | with_reducible exact S0.out
              | with_reducible exact S7.out
              | (go_keep; done)) (first
              | (go_at_call 8; (with_reducible refine (CP.out _ HDR.out).mono ?_); rintro e w7 ⟨A3, n3, c3, rs, rfl, hrs, hb7⟩
                 have X7 := Lib.hid (HDR.out.trans (hb7.mono HDR.out.size))
                 have S7 := Lib.hid (HK.out _ X7.out)))
            all_goals
              have HRS := Lib.hid hrs.out
              replace HJ := Lib.hid (⟨HJ.out.1.on X7.out, HJ.out.2.1.on X7.out, HJ.out.2.2.1, HJ.out.2.2.2.1.trans (X7.out.mono HJ.out.2.2.2.1.size), HJ.out.2.2.2.2⟩ : RowI w7 _ _ _ _ ∧ RowI w7 _ _ _ _ ∧ leftP _ _ _ ∧ Below w.heap.size w w7 ∧ _)
              replace HQW := Lib.hid HJ.out.1
              clear S0 S7 X7 hrs hb7 CP HK HDR HT2 hm2 hm4 hm5
              rcases op with _ | l
              · clear HRS
                have hal : Below w7.heap.size w7 (w7.alloc (.cells #[] 24)) := (Below.refl _ _).alloc (Nat.le_refl _) _
                have HW0 := Lib.hid (own_madep w7 w7.heap.size (Nat.le_refl _))
                have HQ1 := Lib.hid (HJ.out.1.on hal)
                have HRW := Lib.hid HJ.out.2.1
                have HKEY : Hid ((pkeys (qs ++ [x])).reverse = ((pkeys ps).take (k + 1)).foldl pushP []) := by
                  have hh : pushP (pkeys qs).reverse x.key = ((pkeys ps).take (k + 1)).foldl pushP [] := HJ.out.2.2.1
                  rw [HLA.out, push_none HOP.out] at hh
                  show _ = _
                  rw [← hh, ← HLA.out]
                  simp [pkeys]
                have HBEL := Lib.hid HJ.out.2.2.2.1
                have HALL := Lib.hid hal
                obtain ⟨N, hN⟩ : ∃ N, N = ([] : List Pm).length + qs.length := ⟨_, rfl⟩
                have HN := Lib.hid hN
                have HQ40 : Hid (qs.length ≤ 2000) := HQL.out qs HJ.out.2.2.2.2
                have HR1 : Hid ([x].length ≤ 1) := by show _ ≤ _; simp
                clear hal hN HJ
                go_wp2_with (at_builtin; refine wpList_append_prims rfl _ _ rfl w7.heap.size (.slice (some ⟨w7.heap.size, 0, none⟩) 0 0) [] rfl HW0.out qs (some ⟨b1, off1, none⟩) (m + 1) c1 rfl HQ1.out.len HQ1.out.room.1 HQ1.out.at_ HALL.out.size (by have := HQ40.out; simp only [List.length_nil]; omega) N HN.out ?_)
                intro A3 c3 w3 ho3 hg3
                have hb3 : Below w7.heap.size w7 w3 := below_appendp HALL.out HW0.out hg3 (Nat.le_refl _)
                have HO3 : Hid (OwnP w3 w7.heap.size (.slice A3 N c3) qs) := ho3
                have HR3 := Lib.hid (HRW.out.on hb3)
                have HB3 := Lib.hid hb3
                obtain ⟨M, hM⟩ : ∃ M, M = qs.length + [x].length := ⟨_, rfl⟩
                have HM := Lib.hid hM
                clear ho3 hg3 hb3 HW0 HALL HQ1 hM
                go_wp2_with (at_builtin; refine wpList_append_prims rfl _ _ rfl w7.heap.size (.slice A3 N c3) qs rfl HO3.out [x] (some ⟨b2, off2, none⟩) 1 c2 rfl HR3.out.len HR3.out.room.1 HR3.out.at_ HB3.out.size (by have := HQ40.out; have := HR1.out; omega) M HM.out ?_)
                intro A4 c4 w4 ho4 hg4
                have hb4 : Below w7.heap.size w7 w4 := below_appendp HB3.out HO3.out hg4 (Nat.le_refl _)
                have ho4 : OwnP w4 w7.heap.size (.slice A4 M c4) (qs ++ [x]) := by first | exact ho4 | simpa using ho4
                have HFIN : Hid (RowI w4 A4 M c4 (qs ++ [x]) ∧ (pkeys (qs ++ [x])).reverse = ((pkeys ps).take (k + 1)).foldl pushP [] ∧ Below w.heap.size w w4) := by
                  refine ⟨RowI.of_own ho4 (fun z hz => ?_) (fun z hz => ?_), HKEY.out, HBEL.out.trans (hb4.mono HBEL.out.size)⟩
                  · rcases List.mem_append.1 hz with h | h
                    · exact (HQW.out.at_.ok z h).on hb4
                    · exact (HRW.out.at_.ok z h).on hb4
                  · rcases List.mem_append.1 hz with h | h
                    · exact HQW.out.fz z h
                    · exact HRW.out.fz z h
                clear ho4 hg4 hb4 HO3 HR3 HB3 HM HN
                go_wp2
                go_roundw
                case rel => exact ⟨k + 1, A4, M, c4, qs ++ [x], rfl, by go_num, by omega, HFIN.out⟩
                case measure => simp [intOf]; omega
              · obtain ⟨r1, r2, r3, r4, r5⟩ := HRS.out
                replace r5 : pkeys rs = l := r5
                have hl1 : rs.length ≤ 1 := by
                  rw [← pkeys_len, r5]
                  rcases fuse_one HOP.out with rfl | ⟨z, rfl⟩ <;> simp
                have HRN : Hid (RowI w7 A3 n3 c3 rs) := ⟨r1, r2, r3, fun z hz => fuse_mid HFX.out.1 HFX.out.2 HOP.out z.key (by rw [← r5]; exact List.mem_map_of_mem hz)⟩
                have HNX : Hid (RowI w7 (some ⟨b1, off1, none⟩) m c1 (qs.take m) ∧ RowI w7 A3 n3 c3 rs ∧ leftP (pkeys (qs.take m)) (pkeys rs) (((pkeys ps).take (k + 1)).foldl pushP []) ∧ Below w.heap.size w w7 ∧ ∃ k, k ≤ ps.length ∧ (pkeys (qs.take m)).length ≤ (((pkeys ps).take k).foldl pushP []).length + 1) := by
                  refine ⟨HJ.out.1.take m (by omega), HRN.out, ?_, HJ.out.2.2.2.1, ?_⟩
                  · have hh : pushP (pkeys qs).reverse x.key = ((pkeys ps).take (k + 1)).foldl pushP [] := HJ.out.2.2.1
                    rw [HLA.out] at hh
                    rw [r5]
                    rcases fuse_one HOP.out with e | ⟨z, e⟩
                    · rw [e] at HOP ⊢
                      rw [push_gone HOP.out] at hh
                      exact hh
                    · rw [e] at HOP ⊢
                      rw [push_one HOP.out] at hh
                      exact hh
                  · obtain ⟨j, j1, j2⟩ := HJ.out.2.2.2.2
                    refine ⟨j, j1, Nat.le_trans ?_ j2⟩
                    rw [pkeys_len, pkeys_len, List.length_take]
                    omega
                have hn3 : n3 ≤ 1 := by rw [r1]; exact hl1
                have hsl3 := run_slice_prims (some ⟨b1, off1, none⟩) (m + 1) c1 m
                have hsl4 := fun W => hsl3 W (by omega) HJ.out.1.room.2 (.inr ⟨b1, off1, rfl⟩)
                clear HRS r1 r2 r3 r4 r5 hl1 HJ HQW HRN hsl3 HOP HLA HFX
                go_wp2
                go_roundw
                case rel => exact ⟨_, m, c1, qs.take m, A3, n3, c3, rs, rfl, rfl, hn3, HNX.out⟩
                case measure => simp
    · have hke : k = ps.length := by omega
      subst hke
      have hkey : (pkeys qs).reverse = (pkeys ps).foldl pushP [] := by
        have := HI.out.2.1
        rwa [List.take_of_length_le (by rw [pkeys_len]; omega)] at this
      have HKY : Hid (pkeys qs = fuseAllP (pkeys ps)) := by
        show _ = _
        unfold fuseAllP
        rw [← hkey, List.reverse_reverse]
      have HTW := Lib.hid (Tabs.on HT.out HI.out.2.2)
      have HN1 := Lib.hid HI.out.1.len
      clear hkey
      go_wp2_with fail
      refine (fawake_any _ HTW.out).mono ?_
      rintro e w2 ⟨rfl, hb2⟩
      have B2 := Lib.hid (HI.out.2.2.trans (hb2.mono HI.out.2.2.size))
      have Q2 := Lib.hid (HI.out.1.on hb2)
      clear hb2 HI HTW
      go_wp2_with fail
      refine (fall_any A ps cap w2 (HS.out.on B2.out).at_ HS.out.fz (by omega) (Tabs.on HT.out B2.out)).mono ?_
      rintro e w3 ⟨A3, n3, c3, rs, rfl, hrs, hb3⟩
      obtain ⟨r1, r2, r3, r4, r5⟩ := hrs.out
      subst r1
      have n1e := HN1.out
      subst n1e
      have hl2 : rs.length ≤ ps.length := by
        rw [← pkeys_len, r5, ← pkeys_len ps]
        exact fuseall_len _
      have CS := Lib.hid (refsamep_eq A3 A1 rs qs c3 c1 w3 (r5.trans HKY.out.symm) r2 (Q2.out.on hb3).at_ (by omega) (fun z hz => ⟨Nat.le_trans (r4 z hz).2.old.1 (by decide), Nat.le_trans (r4 z hz).2.new.1 (by decide)⟩))
      have B3 := Lib.hid (B2.out.trans (hb3.mono B2.out.size))
      clear hrs r2 r3 r4 r5 hb3 hl2 Q2 B2 HN1 HKY
      go_wp2_with fail
      refine CS.out.mono ?_
      rintro e w4 ⟨rfl, q4, rfl⟩
      go_wp2
      go_ret
      exact ⟨rfl, below_drewN B3.out q4⟩
end Go.Proofs.YtempamboacbgiaaDoor
