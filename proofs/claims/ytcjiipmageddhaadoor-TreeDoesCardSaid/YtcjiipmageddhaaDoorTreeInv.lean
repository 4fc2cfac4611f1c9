
/- Trees, plainly: files in order, each path once; what With and Without make of them. -/
import Derived.Test.YtcjiipmageddhaaDoorTreePlain
namespace Go.Proofs.YtcjiipmageddhaaDoor
open Go.RowKit
set_option linter.unusedVariables false

/-- In order, each path once. -/
def Rise (ks : List PF) : Prop := ks.Pairwise fun x y => lessK x y = true
theorem lessK_asymm {x y : PF} (h : lessK x y = true) : lessK y x = false := by
  cases h2 : lessK y x with
  | false => rfl
  | true => exact absurd ⟨h, h2⟩ (lessP_asymm nameP x.1 y.1)
theorem lessK_trans {x y z : PF} (h : lessK x y = true) (h2 : lessK y z = true) : lessK x z = true := lessP_trans nameP h h2
theorem lessK_ne {x y : PF} (h : lessK x y = true) : x.1 ≠ y.1 := fun e => by
  unfold lessK at h
  rw [e, lessP_irrefl] at h
  cases h
theorem lessK_or {x y : PF} (h : x.1 ≠ y.1) : lessK x y = true ∨ lessK y x = true := by
  rcases lessP_total nameP x.1 y.1 with h1 | h1 | h1
  · exact .inl h1
  · exact .inr h1
  · exact absurd h1 h
theorem Rise.without {ks : List PF} (h : Rise ks) (p : List UInt8) : Rise (withoutK ks p) := List.Pairwise.sublist List.filter_sublist h
theorem without_not {ks : List PF} {p : List UInt8} {k : PF} (h : k ∈ withoutK ks p) : k.1 ≠ p ∧ k ∈ ks := by
  have := List.mem_filter.1 h
  exact ⟨by simpa using this.2, this.1⟩
/-- Where a file goes, told by its neighbours. -/
theorem place_at {x : PF} {out : List PF} {i : Nat} (hi : i ≤ out.length) (h1 : ∀ j (hj : j < out.length), j < i → lessK out[j] x = true) (h2 : ∀ j (hj : j < out.length), i ≤ j → lessK x out[j] = true) : placeK x out out.length = i := by
  have key : ∀ n, i ≤ n → n ≤ out.length → placeK x out n = i := by
    intro n
    induction n with
    | zero => intro h _; simp [placeK]; omega
    | succ n ih =>
      intro hin hn
      have hlt : n < out.length := by omega
      rw [placeK, List.getElem?_eq_getElem hlt]
      by_cases he : i = n + 1
      · have := lessK_asymm (h1 n hlt (by omega))
        simp [this, he]
      · have := h2 n hlt (by omega)
        simp [this, ih (by omega) (by omega)]
  exact key out.length hi (Nat.le_refl _)
theorem insK_at {x : PF} {out : List PF} {i : Nat} (hi : i ≤ out.length) (h1 : ∀ j (hj : j < out.length), j < i → lessK out[j] x = true) (h2 : ∀ j (hj : j < out.length), i ≤ j → lessK x out[j] = true) : insK out x = out.take i ++ [x] ++ out.drop i := by
  unfold insK
  rw [place_at hi h1 h2]
theorem foldl_rise : ∀ (l out : List PF), Rise (out ++ l) → l.foldl insK out = out ++ l
  | [], out, _ => by simp
  | x :: l, out, h => by
    have hx : ∀ g ∈ out, lessK g x = true := fun g hg => (List.pairwise_append.1 h).2.2 g hg x (by simp)
    have e : insK out x = out ++ [x] := by
      rw [insK_at (i := out.length) (Nat.le_refl _) (fun j hj _ => hx _ (List.getElem_mem _)) (fun j hj h => by omega), List.take_length, List.drop_length, List.append_nil]
    rw [List.foldl_cons, e, foldl_rise l (out ++ [x]) (by rw [List.append_assoc]; exact h), List.append_assoc]
    rfl
theorem sort_rise {l : List PF} (h : Rise l) : sortK l = l := foldl_rise l [] (by simpa using h)
theorem with_rise {ks : List PF} (h : Rise ks) (x : PF) : withK ks x = insK (withoutK ks x.1) x := by
  unfold withK
  have e : sortK (withoutK ks x.1 ++ [x]) = insK (sortK (withoutK ks x.1)) x := by
    unfold sortK
    rw [List.foldl_append]
    rfl
  rw [e, sort_rise (h.without _)]
/-- There is a place. -/
theorem place_is : ∀ {out : List PF} {x : PF}, Rise out → (∀ k ∈ out, k.1 ≠ x.1) → ∃ i, i ≤ out.length ∧ (∀ j (hj : j < out.length), j < i → lessK out[j] x = true) ∧ (∀ j (hj : j < out.length), i ≤ j → lessK x out[j] = true)
  | [], x, _, _ => ⟨0, Nat.le_refl _, fun j hj => by simp at hj, fun j hj => by simp at hj⟩
  | k :: l, x, h, hn => by
    obtain ⟨h1, h2⟩ := List.pairwise_cons.1 h
    rcases lessK_or (hn k (by simp)) with hk | hk
    · obtain ⟨i, hi, a, b⟩ := place_is (out := l) (x := x) h2 fun g hg => hn g (List.mem_cons_of_mem _ hg)
      refine ⟨i + 1, by simp; omega, fun j hj hji => ?_, fun j hj hji => ?_⟩
      · cases j with
        | zero => exact hk
        | succ j => exact a j (by simpa using hj) (by omega)
      · cases j with
        | zero => omega
        | succ j => exact b j (by simpa using hj) (by omega)
    · refine ⟨0, Nat.zero_le _, fun j hj h => by omega, fun j hj _ => ?_⟩
      cases j with
      | zero => exact hk
      | succ j => exact lessK_trans hk (h1 _ (List.getElem_mem _))
theorem insK_rise {out : List PF} {x : PF} (h : Rise out) (hn : ∀ k ∈ out, k.1 ≠ x.1) : Rise (insK out x) := by
  obtain ⟨i, hi, a, b⟩ := place_is h hn
  rw [insK_at hi a b]
  have h' : Rise (out.take i ++ out.drop i) := by rw [List.take_append_drop]; exact h
  obtain ⟨p1, p2, p3⟩ := List.pairwise_append.1 h'
  have ha : ∀ g ∈ out.take i, lessK g x = true := fun g hg => by
    obtain ⟨j, hj, rfl⟩ := List.getElem_of_mem hg
    rw [List.length_take] at hj
    rw [List.getElem_take]
    exact a j (by omega) (by omega)
  have hb : ∀ g ∈ out.drop i, lessK x g = true := fun g hg => by
    obtain ⟨j, hj, rfl⟩ := List.getElem_of_mem hg
    rw [List.length_drop] at hj
    rw [List.getElem_drop]
    exact b (i + j) (by omega) (by omega)
  refine List.pairwise_append.2 ⟨List.pairwise_append.2 ⟨p1, by simp, fun g hg y hy => ?_⟩, p2, fun g hg y hy => ?_⟩
  · rw [List.mem_singleton] at hy
    subst hy
    exact ha g hg
  · rcases List.mem_append.1 hg with hg | hg
    · exact p3 g hg y hy
    · rw [List.mem_singleton] at hg
      subst hg
      exact hb y hy
theorem Rise.with_ {ks : List PF} (h : Rise ks) (x : PF) : Rise (withK ks x) := by
  rw [with_rise h x]
  exact insK_rise (h.without _) fun k hk => (without_not hk).1
theorem insK_mem (out : List PF) (x f : PF) : f ∈ insK out x ↔ f ∈ out ∨ f = x := by
  have e : f ∈ out ↔ f ∈ out.take (placeK x out out.length) ∨ f ∈ out.drop (placeK x out out.length) := by
    rw [← List.mem_append, List.take_append_drop]
  rw [e]
  unfold insK
  simp only [List.mem_append, List.mem_singleton]
  constructor
  · rintro ((h | h) | h)
    · exact .inl (.inl h)
    · exact .inr h
    · exact .inl (.inr h)
  · rintro ((h | h) | h)
    · exact .inl (.inl h)
    · exact .inr h
    · exact .inl (.inr h)
theorem with_memK {ks : List PF} (h : Rise ks) {x f : PF} : f ∈ withK ks x ↔ (f ∈ ks ∧ f.1 ≠ x.1) ∨ f = x := by
  rw [with_rise h x, insK_mem]
  constructor
  · rintro (h | h)
    · exact .inl ⟨(without_not h).2, (without_not h).1⟩
    · exact .inr h
  · rintro (⟨h1, h2⟩ | h)
    · exact .inl (List.mem_filter.2 ⟨h1, by simpa using h2⟩)
    · exact .inr h
/-- What is found stands at one place alone. -/
theorem rise_once {ks : List PF} (h : Rise ks) {i j : Nat} (hi : i < ks.length) (hj : j < ks.length) (e : ks[i].1 = ks[j].1) : i = j := by
  rcases Nat.lt_trichotomy i j with k | k | k
  · exact absurd e (lessK_ne (List.pairwise_iff_getElem.1 h i j hi hj k))
  · exact k
  · exact absurd e.symm (lessK_ne (List.pairwise_iff_getElem.1 h j i hj hi k))
/-- A file in the place of an older one. -/
theorem with_over {ks : List PF} (h : Rise ks) {i : Nat} (hi : i < ks.length) {x : PF} (hx : ks[i].1 = x.1) : withK ks x = ks.take i ++ [x] ++ ks.drop (i + 1) := by
  have hw : withoutK ks x.1 = ks.take i ++ ks.drop (i + 1) := by
    unfold withoutK
    have e : ks = ks.take i ++ ks[i] :: ks.drop (i + 1) := by rw [← List.drop_eq_getElem_cons hi, List.take_append_drop]
    conv => lhs; rw [e]
    rw [List.filter_append, List.filter_cons, if_neg (by simp [hx])]
    rw [List.filter_eq_self.2, List.filter_eq_self.2]
    · intro k hk
      obtain ⟨j, hj, rfl⟩ := List.getElem_of_mem hk
      rw [List.length_drop] at hj
      rw [List.getElem_drop]
      have : ks[i + 1 + j].1 ≠ x.1 := fun e => by
        have := rise_once h (i := i + 1 + j) (j := i) (by omega) hi (by rw [e, hx])
        omega
      simpa using this
    · intro k hk
      obtain ⟨j, hj, rfl⟩ := List.getElem_of_mem hk
      rw [List.length_take] at hj
      rw [List.getElem_take]
      have : ks[j].1 ≠ x.1 := fun e => by
        have := rise_once h (i := j) (j := i) (by omega) hi (by rw [e, hx])
        omega
      simpa using this
  have hlx : ∀ y : PF, lessK y x = lessK y ks[i] := fun y => by unfold lessK; rw [hx]
  have hxl : ∀ y : PF, lessK x y = lessK ks[i] y := fun y => by unfold lessK; rw [hx]
  rw [with_rise h x, hw]
  have hl : (ks.take i).length = i := by rw [List.length_take]; omega
  rw [insK_at (i := i) (by rw [List.length_append, hl]; omega) (fun j hj hji => ?_) (fun j hj hji => ?_)]
  · congr 1
    · congr 1
      rw [List.take_left' hl]
    · rw [List.drop_left' hl]
  · rw [List.getElem_append_left (by omega), List.getElem_take, hlx]
    exact List.pairwise_iff_getElem.1 h j i (by omega) hi hji
  · rw [List.getElem_append_right (by omega), List.getElem_drop, hxl]
    exact List.pairwise_iff_getElem.1 h i _ hi _ (by omega)
end Go.Proofs.YtcjiipmageddhaaDoor
