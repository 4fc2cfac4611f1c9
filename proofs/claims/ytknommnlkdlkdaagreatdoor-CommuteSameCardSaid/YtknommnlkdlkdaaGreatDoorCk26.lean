/- Trees, plainly: what holds of each tree that calls make. -/
import Derived.Test.YtknommnlkdlkdaaGreatDoorCk25
import Derived.Test.YtknommnlkdlkdaaGreatDoorCk03
namespace Go.Proofs.YtknommnlkdlkdaaGreatDoor
open Go.RowKit
set_option linter.unusedVariables false

theorem find_one {ks : List PF} (h : Rise ks) {p : List UInt8} {k : PF} : ks.find? (fun k => decide (k.1 = p)) = some k ↔ k ∈ ks ∧ k.1 = p := by
  constructor
  · intro e
    exact ⟨List.mem_of_find?_eq_some e, by simpa using List.find?_some e⟩
  · rintro ⟨hm, hp⟩
    obtain ⟨j, hj, rfl⟩ := List.getElem_of_mem hm
    rw [List.find?_eq_some_iff_getElem]
    refine ⟨by simpa using hp, j, hj, rfl, fun i hi => ?_⟩
    have : ks[i].1 ≠ p := fun e => by
      have := rise_once h (i := i) (j := j) (by omega) hj (by rw [e, hp])
      omega
    simpa using this
theorem find_noK {ks : List PF} {p : List UInt8} (h : ks.find? (fun k => decide (k.1 = p)) = none) : ∀ k ∈ ks, k.1 ≠ p := fun k hk => by
  rw [List.find?_eq_none] at h
  simpa using h k hk
theorem dirK_iff {ks : List PF} (h : Rise ks) {p : List UInt8} : dirK ks p = true ↔ p = [] ∨ ∃ k ∈ ks, k.1 = p ∧ k.2.1 = true := by
  unfold dirK
  rw [Bool.or_eq_true, decide_eq_true_eq]
  constructor
  · rintro (e | e)
    · exact .inl e
    · cases hf : ks.find? fun k => decide (k.1 = p) with
      | none => rw [hf] at e; cases e
      | some k =>
        rw [hf] at e
        obtain ⟨hm, hp⟩ := (find_one h).1 hf
        exact .inr ⟨k, hm, hp, e⟩
  · rintro (e | ⟨k, hm, hp, hd⟩)
    · exact .inl e
    · refine .inr ?_
      rw [(find_one h).2 ⟨hm, hp⟩]
      exact hd
/-- In order, each in a directory, lines that may be. -/
structure Well (ks : List PF) : Prop where
  rise : Rise ks
  paths : ∀ k ∈ ks, names nameP k.1 ≠ []
  up : ∀ k ∈ ks, dirP nameP k.1 = [] ∨ ∃ d ∈ ks, d.1 = dirP nameP k.1 ∧ d.2.1 = true
  lines : ∀ k ∈ ks, checkN (toBs k.2.2) = 0
  dirs : ∀ k ∈ ks, k.2.1 = true → k.2.2 = []
theorem Well.nil : Well [] := ⟨List.Pairwise.nil, by simp, by simp, by simp, by simp⟩
/-- A new one, or a file in the place of a file. -/
theorem Well.put {ks : List PF} (h : Well ks) {x : PF} (hp : names nameP x.1 ≠ []) (hu : dirP nameP x.1 = [] ∨ ∃ d ∈ ks, d.1 = dirP nameP x.1 ∧ d.2.1 = true) (hl : checkN (toBs x.2.2) = 0) (hd : x.2.1 = true → x.2.2 = []) (ho : ∀ k ∈ ks, k.1 = x.1 → k.2.1 = false) : Well (withK ks x) := by
  have keep : ∀ {q : List UInt8}, (q = [] ∨ ∃ d ∈ ks, d.1 = q ∧ d.2.1 = true) → (q = [] ∨ ∃ d ∈ withK ks x, d.1 = q ∧ d.2.1 = true) := by
    rintro q (e | ⟨d, hm, e, hdd⟩)
    · exact .inl e
    · refine .inr ⟨d, (with_memK h.rise).2 (.inl ⟨hm, fun e2 => ?_⟩), e, hdd⟩
      rw [ho d hm e2] at hdd
      cases hdd
  refine ⟨h.rise.with_ x, fun k hk => ?_, fun k hk => ?_, fun k hk => ?_, fun k hk hkd => ?_⟩ <;> rcases (with_memK h.rise).1 hk with ⟨hm, hne⟩ | rfl
  · exact h.paths k hm
  · exact hp
  · exact keep (h.up k hm)
  · exact keep hu
  · exact h.lines k hm
  · exact hl
  · exact h.dirs k hm hkd
  · exact hd hkd
/-- One gone in which nothing lies. -/
theorem Well.take {ks : List PF} (h : Well ks) {p : List UInt8} (hn : ∀ k ∈ ks, dirP nameP k.1 = p → p = [] ∨ ∀ d ∈ ks, d.1 = p → d.2.1 = false) (hp : p ≠ []) : Well (withoutK ks p) := by
  refine ⟨h.rise.without p, fun k hk => h.paths k (without_not hk).2, fun k hk => ?_, fun k hk => h.lines k (without_not hk).2, fun k hk => h.dirs k (without_not hk).2⟩
  have hm := (without_not hk).2
  rcases h.up k hm with e | ⟨d, hd, e, hdd⟩
  · exact .inl e
  · refine .inr ⟨d, List.mem_filter.2 ⟨hd, ?_⟩, e, hdd⟩
    have : d.1 ≠ p := fun e2 => by
      rcases hn k hm (by rw [← e, e2]) with h0 | h0
      · exact hp h0
      · rw [h0 d hd e2] at hdd
        cases hdd
    simpa using this
theorem names_nilK : names nameP [] = [] := by
  have h : nameP [] = false := by decide +kernel
  simp [names, pieces, h]
theorem names_ne {p : List UInt8} (h : names nameP p ≠ []) : p ≠ [] := fun e => by
  rw [e] at h
  exact h names_nilK
theorem check_nil : checkN (toBs []) = 0 := rfl
theorem do_well {ks : List PF} (h : Well ks) {kind : Int} {p q : List UInt8} {ls : List (List UInt8)} {res : List PF} (hd : doK ks kind p q ls (checkN (toBs ls)) = (0, res)) : Well res := by
  unfold doK at hd
  split at hd
  · simp at hd
  · rename_i hr
    rw [not_or, not_and] at hr
    obtain ⟨hr1, hr2⟩ := hr
    split at hd
    · rename_i hf
      have hno := find_noK hf
      have ho : ∀ k ∈ ks, k.1 = p → k.2.1 = false := fun k hk e => absurd e (hno k hk)
      split at hd
      · split at hd
        · simp at hd
        · rename_i hdir
          obtain ⟨_, rfl⟩ := Prod.mk.inj hd
          have hdir := (dirK_iff h.rise).1 (by simpa using hdir)
          exact h.put (x := (p, true, [])) hr1 hdir check_nil (fun _ => rfl) ho
      · split at hd
        · split at hd
          · rename_i hc
            exact absurd (Prod.mk.inj hd).1 hc
          · rename_i hc
            split at hd
            · simp at hd
            · rename_i hdir
              obtain ⟨_, rfl⟩ := Prod.mk.inj hd
              have hdir := (dirK_iff h.rise).1 (by simpa using hdir)
              exact h.put (x := (p, false, ls)) hr1 hdir (by simpa using hc) (fun e => by cases e) ho
        · simp at hd
    · rename_i f hf
      obtain ⟨hfm, hfp⟩ := (find_one h.rise).1 hf
      split at hd
      · simp at hd
      · split at hd
        · split at hd
          · simp at hd
          · rename_i hfd
            split at hd
            · rename_i hc
              exact absurd (Prod.mk.inj hd).1 hc
            · rename_i hc
              obtain ⟨_, rfl⟩ := Prod.mk.inj hd
              refine h.put (x := (p, false, ls)) hr1 ?_ (by simpa using hc) (fun e => by cases e) fun k hk e => ?_
              · have := h.up f hfm
                rwa [hfp] at this
              · have := (find_one h.rise).2 ⟨hk, e⟩
                rw [hf] at this
                cases this
                simpa using hfd
        · split at hd
          · split at hd
            · simp at hd
            · rename_i hch
              obtain ⟨_, rfl⟩ := Prod.mk.inj hd
              refine h.take (fun k hk e => ?_) (names_ne hr1)
              have : childK ks p = true := by
                unfold childK
                rw [List.any_eq_true]
                exact ⟨k, hk, by simpa using e⟩
              exact absurd this hch
          · rename_i hn0 hn1 hn2
            split at hd
            · simp at hd
            · rename_i hfd
              split at hd
              · simp at hd
              · rename_i hft
                split at hd
                · simp at hd
                · rename_i hdir
                  obtain ⟨_, rfl⟩ := Prod.mk.inj hd
                  have hdir := (dirK_iff h.rise).1 (by simpa using hdir)
                  have hff : ∀ d ∈ ks, d.1 = p → d.2.1 = false := fun d hd e => by
                    have := (find_one h.rise).2 ⟨hd, e⟩
                    rw [hf] at this
                    cases this
                    simpa using hfd
                  have hq : ∀ k ∈ ks, k.1 ≠ q := by
                    refine find_noK ?_
                    cases hh : ks.find? fun k => decide (k.1 = q) with
                    | none => rfl
                    | some k => rw [hh] at hft; simp at hft
                  have hw := h.take (fun k hk e => .inr hff) (names_ne hr1)
                  refine hw.put (x := (q, false, f.2.2)) (hr2 (by omega)) ?_ (h.lines f hfm) (fun e => by cases e) fun k hk e => absurd e (hq k (without_not hk).2)
                  rcases hdir with e | ⟨d, hdm, e, hdd⟩
                  · exact .inl e
                  · refine .inr ⟨d, List.mem_filter.2 ⟨hdm, ?_⟩, e, hdd⟩
                    have : d.1 ≠ p := fun e2 => by
                      rw [hff d hdm e2] at hdd
                      cases hdd
                    simpa using this
/-- Behind an error the files are as they were. -/
theorem do_same {ks : List PF} {kind : Int} {p q : List UInt8} {ls : List (List UInt8)} {ck er : Int} {res : List PF} (hd : doK ks kind p q ls ck = (er, res)) (he : er ≠ 0) : res = ks := by
  unfold doK at hd
  repeat' split at hd
  all_goals
    obtain ⟨h1, h2⟩ := Prod.mk.inj hd
    first
      | exact h2.symm
      | exact absurd h1.symm he
end Go.Proofs.YtknommnlkdlkdaaGreatDoor
