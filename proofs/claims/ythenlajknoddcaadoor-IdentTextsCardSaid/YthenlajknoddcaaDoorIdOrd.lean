
/- Package ident's order, Less: strings.Compare, cmp.Compare, cmp.Or. -/
import Derived.Test.YthenlajknoddcaaDoorId
import Derived.Test.YthenlajknoddcaaDoorBd
import Derived.Test.YthenlajknoddcaaDoorShelf
import Derived.Test.YthenlajknoddcaaDoorOr
import Derived.Deep.RegionHeld3
import Derived.Handy
namespace Go.Proofs.YthenlajknoddcaaDoor
open Go.RowKit
set_option linter.unusedVariables false

theorem strcompare_w (s t : ByteArray) (c : Int) (hc : Lib.compareBytes s.data.toList t.data.toList = c) (w : World) :
    Calls Tryd.prog 35 #[.string s, .string t] w fun e w' => e = .returned (.int .i64 c) ∧ w = w' := by
  have h := Tryd.strings_Compare s t w
  rw [hc] at h
  exact h.mono fun e w' ⟨he, hw⟩ => ⟨he, hw.symm⟩
def cmpZ (a b : Int) : Int := if a < b then -1 else if a = b then 0 else 1
theorem nan_int (a : Int) (w : World) : Calls Tryd.prog 50 #[.int .i64 a] w fun e w' => e = .returned (.bool false) ∧ w = w' := by
  have h1 : (a == a) = true := by simp
  go_enter Tryd.func50, Tryd.ntmps50
  go_wp2
  go_ret
  exact ⟨rfl, rfl⟩
set_option maxHeartbeats 1000000 in
set_option maxRecDepth 100000 in
theorem cmpint_any (a b : Int) (c : Int) (hc : cmpZ a b = c) (w : World) :
    Calls Tryd.prog 36 #[.int .i64 a, .int .i64 b] w fun e w' => e = .returned (.int .i64 c) ∧ w = w' := by
  have HN := Lib.hid (fun a w => nan_int a w)
  rcases Int.lt_trichotomy a b with h | h | h
  · have e : c = -1 := by rw [← hc]; unfold cmpZ; rw [if_pos h]
    subst e
    clear hc
    go_enter Tryd.func36, Tryd.ntmps36
    go_wp2_with fail
    refine (HN.out _ _).mono ?_
    rintro e w1 ⟨rfl, rfl⟩
    go_wp2_with fail
    refine (HN.out _ _).mono ?_
    rintro e w1 ⟨rfl, rfl⟩
    go_wp2
    go_ret
    exact ⟨rfl, rfl⟩
  · subst h
    have e : c = 0 := by rw [← hc]; unfold cmpZ; rw [if_neg (by omega), if_pos rfl]
    subst e
    have h1 : ¬ a < a := by omega
    have h2 : ¬ a > a := by omega
    clear hc
    go_enter Tryd.func36, Tryd.ntmps36
    go_wp2_with fail
    refine (HN.out _ _).mono ?_
    rintro e w1 ⟨rfl, rfl⟩
    go_wp2_with fail
    refine (HN.out _ _).mono ?_
    rintro e w1 ⟨rfl, rfl⟩
    go_wp2
    go_ret
    exact ⟨rfl, rfl⟩
  · have e : c = 1 := by rw [← hc]; unfold cmpZ; rw [if_neg (by omega), if_neg (by omega)]
    subst e
    have h1 : ¬ a < b := by omega
    have h2 : a > b := h
    clear hc
    go_enter Tryd.func36, Tryd.ntmps36
    go_wp2_with fail
    refine (HN.out _ _).mono ?_
    rintro e w1 ⟨rfl, rfl⟩
    go_wp2_with fail
    refine (HN.out _ _).mono ?_
    rintro e w1 ⟨rfl, rfl⟩
    go_wp2
    go_ret
    exact ⟨rfl, rfl⟩
theorem cmpbytes_lt : ∀ (a b : List UInt8), Lib.compareBytes a b < 0 ↔ a < b
  | [], [] => by simp [Lib.compareBytes]
  | [], _ :: _ => by simp [Lib.compareBytes]
  | _ :: _, [] => by simp [Lib.compareBytes]
  | a :: l, b :: m => by
    have ih := cmpbytes_lt l m
    unfold Lib.compareBytes
    rw [List.cons_lt_cons_iff]
    by_cases h : a < b
    · simp [h]
    · by_cases k : b < a
      · have : a ≠ b := by rintro rfl; exact h k
        simp [h, k, this]
      · have : a = b := UInt8.le_antisymm (UInt8.not_lt.1 k) (UInt8.not_lt.1 h)
        simp [this, ih]
theorem cmpbytes_eq : ∀ (a b : List UInt8), Lib.compareBytes a b = 0 ↔ a = b
  | [], [] => by simp [Lib.compareBytes]
  | [], _ :: _ => by simp [Lib.compareBytes]
  | _ :: _, [] => by simp [Lib.compareBytes]
  | a :: l, b :: m => by
    have ih := cmpbytes_eq l m
    unfold Lib.compareBytes
    rw [List.cons.injEq]
    by_cases h : a < b
    · have : a ≠ b := by rintro rfl; exact UInt8.lt_irrefl _ h
      simp [h, this]
    · by_cases k : b < a
      · have : a ≠ b := by rintro rfl; exact h k
        simp [h, k, this]
      · have : a = b := UInt8.le_antisymm (UInt8.not_lt.1 k) (UInt8.not_lt.1 h)
        simp [this, ih]
/-- What order tells. -/
def ordI (x y : Im) : Int := if Lib.compareBytes x.p.data.toList y.p.data.toList = 0 then cmpZ x.n y.n else Lib.compareBytes x.p.data.toList y.p.data.toList
theorem cmpZ_lt (a b : Int) : cmpZ a b < 0 ↔ a < b := by
  unfold cmpZ
  split
  · simp [*]
  · split <;> simp <;> omega
theorem cmpZ_eq (a b : Int) : cmpZ a b = 0 ↔ a = b := by
  unfold cmpZ
  split
  · simp; omega
  · split <;> simp [*]
theorem ordI_lt (x y : Im) : ordI x y < 0 ↔ ltI x.key y.key := by
  unfold ordI ltI Im.key
  by_cases h : Lib.compareBytes x.p.data.toList y.p.data.toList = 0
  · rw [if_pos h, cmpZ_lt]
    have e := (cmpbytes_eq _ _).1 h
    exact ⟨fun k => .inr ⟨e, k⟩, fun k => k.elim (fun k => absurd (e ▸ k) (t_irrefl _)) fun k => k.2⟩
  · rw [if_neg h, cmpbytes_lt]
    have e := fun k => h ((cmpbytes_eq _ _).2 k)
    exact ⟨.inl, fun k => k.elim id fun k => absurd k.1 e⟩
theorem ordI_eq (x y : Im) : ordI x y = 0 ↔ x = y := by
  unfold ordI
  by_cases h : Lib.compareBytes x.p.data.toList y.p.data.toList = 0
  · rw [if_pos h, cmpZ_eq]
    have e := bytes_inj ((cmpbytes_eq _ _).1 h)
    exact ⟨fun k => by obtain ⟨p, n⟩ := x; obtain ⟨q, m⟩ := y; simp_all, fun k => by rw [k]⟩
  · rw [if_neg h]
    exact ⟨fun k => absurd k h, fun k => absurd ((cmpbytes_eq _ _).2 (by rw [k])) h⟩
set_option maxHeartbeats 4000000 in
set_option maxRecDepth 100000 in
theorem order_any (x y : Im) (w : World) :
    Calls Tryd.prog 25 #[x.val, y.val] w fun e w' => e = .returned (.int .i64 (ordI x y)) ∧ Bd w w' := by
  obtain ⟨hb, hx, hy⟩ := id_box2 w x y
  have hd : Bd w ((w.alloc (.cells #[.string x.p, .int .i64 x.n] 23)).alloc (.cells #[.string y.p, .int .i64 y.n] 23)) := ((Bd.refl w).alloc _).alloc _
  unfold Im.val
  have HD := Lib.hid hd
  have HX := Lib.hid hx
  have HY := Lib.hid hy
  obtain ⟨c, hc⟩ : ∃ c, Lib.compareBytes x.p.data.toList y.p.data.toList = c := ⟨_, rfl⟩
  obtain ⟨d, hdd⟩ : ∃ d, cmpZ x.n y.n = d := ⟨_, rfl⟩
  have CS := Lib.hid (fun W => strcompare_w x.p y.p c hc W)
  have CI := Lib.hid (fun W => cmpint_any x.n y.n d hdd W)
  have hz : ordI x y = if c = 0 then d else c := by unfold ordI; rw [hc, hdd]
  have HZ := Lib.hid hz
  clear hb hx hy hd hc hdd hz
  generalize ordI x y = z at *
  go_enter Tryd.func25, Tryd.ntmps25
  go_wp2_with fail
  generalize ((w.alloc (.cells #[.string x.p, .int .i64 x.n] 23)).alloc (.cells #[.string y.p, .int .i64 y.n] 23)) = wb at *
  generalize hg : w.heap.size = g at HX HY
  have x0 := id_c0 HX.out
  have x1 := id_c1 HX.out
  have y0 := id_c0 HY.out
  have y1 := id_c1 HY.out
  have CO := Lib.hid (fun (W : World) => or_w W.heap.size c d z (W.alloc (.cells #[.int .i64 c, .int .i64 d] 3)).drew (by show (W.alloc _).cell? _ = _; rw [World.cell?_alloc_new]; rfl) (by show (W.alloc _).cell? _ = _; rw [World.cell?_alloc_new]; rfl) HZ.out)
  go_region_held3 (fun w' => w'.cell? ⟨g, 0, none⟩ = some (.string x.p) ∧ w'.cell? ⟨g, 1, none⟩ = some (.int .i64 x.n) ∧ w'.cell? ⟨g + 1, 0, none⟩ = some (.string y.p) ∧ w'.cell? ⟨g + 1, 1, none⟩ = some (.int .i64 y.n)) (first | exact ⟨x0, x1, y0, y1⟩ | (go_keep; done)) (first
    | (go_at_call 35; refine (CS.out _).mono ?_; rintro e w7 ⟨rfl, rfl⟩)
    | (go_at_call 36; refine (CI.out _).mono ?_; rintro e w7 ⟨rfl, rfl⟩)
    | (go_at_call 34; refine (CO.out _).mono ?_; rintro e w7 ⟨rfl, rfl⟩))
  all_goals
    go_wp2
    go_ret
    exact ⟨rfl, (HD.out.alloc _).drew⟩
/-- Package ident's Less. -/
theorem idless_any (x y : Im) (w : World) :
    Calls Tryd.prog 13 #[x.val, y.val] w fun e w' => e = .returned (.bool (decide (ltI x.key y.key))) ∧ Below w.heap.size w w' := by
  obtain ⟨hb, hx, hy⟩ := id_box2 w x y
  have HB := Lib.hid hb
  have HX := Lib.hid hx
  have HY := Lib.hid hy
  have hr : decide (ltI x.key y.key) = decide (ordI x y < 0) := decide_eq_decide.2 (ordI_lt x y).symm
  have CO := Lib.hid (fun W => order_any x y W)
  rw [hr]
  clear hb hx hy hr
  unfold Im.val at CO ⊢
  generalize ordI x y = z at *
  go_enter Tryd.func13, Tryd.ntmps13
  go_wp2_with fail
  generalize ((w.alloc (.cells #[.string x.p, .int .i64 x.n] 23)).alloc (.cells #[.string y.p, .int .i64 y.n] 23)) = wb at *
  generalize hg : w.heap.size = g at HX HY
  have x0 := id_c0 HX.out
  have x1 := id_c1 HX.out
  have y0 := id_c0 HY.out
  have y1 := id_c1 HY.out
  go_wp2_with fail
  refine (CO.out _).mono ?_
  rintro e w1 ⟨rfl, hd⟩
  have HF := Lib.hid (HB.out.trans (hd.b.mono HB.out.size))
  clear hd x0 x1 y0 y1
  go_wp2
  go_ret
  exact ⟨rfl, HF.out⟩
end Go.Proofs.YthenlajknoddcaaDoor
