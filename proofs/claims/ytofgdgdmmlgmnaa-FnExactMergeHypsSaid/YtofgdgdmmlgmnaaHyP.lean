/-
  Proved: plain lemmas on putting a hypothesis in its place of a list of the least ones.
  Conditions: those of each lemma.
-/
import Derived.Test.YtofgdgdmmlgmnaaHySo
namespace Go.Proofs.Ytofgdgdmmlgmnaa.hyp
open Go.ChangeShapes Go.WideShapes Go.ChangeAt Go.RowKit Go.Joins
open Go.Proofs.Ytofgdgdmmlgmnaa.core Go.Proofs.Ytofgdgdmmlgmnaa.rown Go.Proofs.Ytofgdgdmmlgmnaa.lab
set_option linter.unusedVariables false
set_option linter.unusedSimpArgs false
/-- The cells of a list. -/
def cls (l : List Hy) : List Value := rws (hyR (atH l)) l.length
theorem cls_len (l : List Hy) : (cls l).length = l.length * 2 := rws_len (hyR_len _) _
theorem cls_snoc (l : List Hy) (p : Hy) : cls (l ++ [p]) = cls l ++ [.string p.1, .int .i64 p.2] := by
  unfold cls
  rw [show (l ++ [p]).length = l.length + 1 by simp]
  exact atH_app l p
theorem cls_one (p : Hy) : cls [p] = [.string p.1, .int .i64 p.2] := rfl
theorem cls_app : ∀ (r l : List Hy), cls (l ++ r) = cls l ++ cls r
  | [], l => by simp [cls, rws]
  | x :: r, l => by
    rw [show l ++ x :: r = (l ++ [x]) ++ r by simp, cls_app r (l ++ [x]), cls_snoc, show x :: r = [x] ++ r from rfl, cls_app r [x], cls_one, List.append_assoc]
/-- Those with another label. -/
def oth (l : List Hy) (s : ByteArray) : List Hy := l.filter fun p => decide (p.1 ≠ s)
theorem mem_oth {l : List Hy} {s : ByteArray} {p : Hy} : p ∈ oth l s ↔ p ∈ l ∧ p.1 ≠ s := by unfold oth; rw [List.mem_filter]; simp
theorem oth_snoc (l : List Hy) (s : ByteArray) (p : Hy) : oth (l ++ [p]) s = if p.1 = s then oth l s else oth l s ++ [p] := by
  unfold oth
  rw [List.filter_append]
  by_cases h : p.1 = s
  · rw [if_pos h]; simp [h]
  · rw [if_neg h]; simp [h]
theorem oth_le (l : List Hy) (s : ByteArray) : (oth l s).length ≤ l.length := List.length_filter_le _ _
/-- Where the hypothesis goes among the first k ones. -/
def plc (g : List Hy) (h : Hy) : Nat → Nat
  | 0 => 0
  | k + 1 => if bef h (atH g k) = true then plc g h k else k + 1
theorem plc_le (g : List Hy) (h : Hy) : ∀ k, plc g h k ≤ k
  | 0 => Nat.le_refl _
  | k + 1 => by
    have := plc_le g h k
    unfold plc
    split <;> omega
theorem plc_after (g : List Hy) (h : Hy) : ∀ k i, plc g h k ≤ i → i < k → bef h (atH g i) = true
  | 0, i, _, hi => absurd hi (by omega)
  | k + 1, i, h1, h2 => by
    unfold plc at h1
    split at h1
    · rename_i hb
      rcases Nat.lt_or_ge i k with c | c
      · exact plc_after g h k i h1 c
      · obtain rfl : i = k := by omega
        exact hb
    · omega
theorem plc_before (g : List Hy) (h : Hy) : ∀ k, 0 < plc g h k → bef h (atH g (plc g h k - 1)) = false
  | 0, h1 => absurd h1 (by unfold plc; omega)
  | k + 1, h1 => by
    unfold plc at h1 ⊢
    split
    · rename_i hb
      rw [if_pos hb] at h1
      exact plc_before g h k h1
    · rename_i hb
      rw [Nat.add_sub_cancel]
      cases hc : bef h (atH g k) with
      | true => exact absurd hc hb
      | false => rfl
/-- There is one with this label that costs no more. -/
def Better (l : List Hy) (h : Hy) : Prop := ∃ p ∈ l, p.1 = h.1 ∧ p.2 ≤ h.2
noncomputable def ins (l : List Hy) (h : Hy) : List Hy := @ite _ (Better l h) (Classical.propDecidable _) l ((oth l h.1).take (plc (oth l h.1) h (oth l h.1).length) ++ [h] ++ (oth l h.1).drop (plc (oth l h.1) h (oth l h.1).length))
theorem ins_yes {l : List Hy} {h : Hy} (hb : Better l h) : ins l h = l := by unfold ins; rw [@if_pos _ _ hb]
theorem ins_no {l : List Hy} {h : Hy} (hb : ¬ Better l h) : ins l h = (oth l h.1).take (plc (oth l h.1) h (oth l h.1).length) ++ [h] ++ (oth l h.1).drop (plc (oth l h.1) h (oth l h.1).length) := by unfold ins; rw [@if_neg _ _ hb]
theorem ins_le (l : List Hy) (h : Hy) : (ins l h).length ≤ l.length + 1 := by
  by_cases hb : Better l h
  · rw [ins_yes hb]; omega
  · rw [ins_no hb]
    have := oth_le l h.1
    have := plc_le (oth l h.1) h (oth l h.1).length
    simp
    omega
theorem atH_get {l : List Hy} {i : Nat} (h : i < l.length) : atH l i = l[i] := by unfold atH; rw [List.getD_eq_getElem?_getD, List.getElem?_eq_getElem h]; rfl
theorem ins_least {xs l : List Hy} {h : Hy} (hl : Least xs l) : Least (xs ++ [h]) (ins l h) := by
  by_cases hb : Better l h
  · rw [ins_yes hb]
    obtain ⟨p0, hp0, e0, c0⟩ := hb
    have hm0 := (hl.mem p0).1 hp0
    refine ⟨hl.sorted, fun p => (hl.mem p).trans ⟨fun hp => ⟨by simp [hp.1], fun q hq e => ?_⟩, fun hp => ?_⟩⟩
    · rcases List.mem_append.1 hq with g | g
      · exact hp.2 q g e
      · simp at g
        subst g
        have : p = p0 := min_uniq hp hm0 (by rw [e0, e])
        rw [this]; exact c0
    · by_cases e : p.1 = h.1
      · rcases min_app_same hp e with ⟨rfl, h2⟩ | ⟨hm, -⟩
        · have h3 := h2 p0 hm0.1 e0
          obtain rfl : p0 = p := Prod.ext e0 (by omega)
          exact hm0
        · exact hm
      · exact min_app hp e
  · rw [ins_no hb]
    obtain ⟨g, hg⟩ : ∃ g, oth l h.1 = g := ⟨_, rfl⟩
    have hmem : ∀ p, p ∈ g ↔ p ∈ l ∧ p.1 ≠ h.1 := fun p => by rw [← hg]; exact mem_oth
    have hsort : g.Pairwise fun p q => bef p q = true := by rw [← hg]; exact hl.sorted.filter _
    rw [hg]
    obtain ⟨k, hk⟩ : ∃ k, plc g h g.length = k := ⟨_, rfl⟩
    have hkl := plc_le g h g.length
    have hka := plc_after g h g.length
    have hkb := plc_before g h g.length
    rw [hk] at hkl hka hkb ⊢
    have hidx := List.pairwise_iff_getElem.1 hsort
    have bef1 : ∀ p ∈ g.take k, bef p h = true := fun p hp => by
      obtain ⟨i, hi, rfl⟩ := List.mem_take_iff_getElem.1 hp
      have hi2 : i < k := by omega
      have hk0 := hkb (by omega)
      rw [atH_get (by omega)] at hk0
      have hne : (g[k - 1]'(by omega)).1 ≠ h.1 := ((hmem _).1 (List.getElem_mem _)).2
      have hlast : bef (g[k - 1]'(by omega)) h = true := by
        cases hc : bef (g[k - 1]'(by omega)) h with
        | true => rfl
        | false => exact absurd (congrArg Prod.fst (bef_tot hc hk0)) hne
      rcases Nat.lt_or_ge i (k - 1) with c | c
      · exact bef_trans (hidx i (k - 1) (by omega) (by omega) c) hlast
      · obtain rfl : i = k - 1 := by omega
        exact hlast
    have bef2 : ∀ p ∈ g.drop k, bef h p = true := fun p hp => by
      obtain ⟨i, hi, rfl⟩ := List.mem_drop_iff_getElem.1 hp
      have := hka (k + i) (by omega) (by omega)
      rwa [atH_get (by omega)] at this
    have hsd : ∀ p, p ∈ g.take k ++ [h] ++ g.drop k ↔ p ∈ g ∨ p = h := fun p => by
      rw [List.mem_append, List.mem_append]
      constructor
      · rintro ((hp | hp) | hp)
        · exact .inl (List.mem_of_mem_take hp)
        · simp at hp; exact .inr hp
        · exact .inl (List.mem_of_mem_drop hp)
      · rintro (hp | rfl)
        · rw [← List.take_append_drop k g, List.mem_append] at hp
          rcases hp with hp | hp
          · exact .inl (.inl hp)
          · exact .inr hp
        · exact .inl (.inr (by simp))
    refine ⟨?_, fun p => ?_⟩
    · rw [List.append_assoc, List.pairwise_append]
      refine ⟨hsort.sublist (List.take_sublist _ _), ?_, fun a ha b hb' => ?_⟩
      · rw [List.singleton_append, List.pairwise_cons]
        exact ⟨bef2, hsort.sublist (List.drop_sublist _ _)⟩
      · rcases List.mem_append.1 hb' with c | c
        · simp at c; subst c; exact bef1 a ha
        · exact bef_trans (bef1 a ha) (bef2 b c)
    · rw [hsd, hmem]
      constructor
      · rintro (⟨hp, hne⟩ | rfl)
        · have hm := (hl.mem p).1 hp
          refine ⟨by simp [hm.1], fun q hq e => ?_⟩
          rcases List.mem_append.1 hq with c | c
          · exact hm.2 q c e
          · simp at c; subst c; exact absurd e.symm hne
        · refine ⟨by simp, fun q hq e => ?_⟩
          rcases List.mem_append.1 hq with c | c
          · obtain ⟨r, hr, er⟩ := min_exists p.1 xs ⟨q, c, e⟩
            have h3 := hr.2 q c (by rw [e, er])
            have h4 : ¬ r.2 ≤ p.2 := fun h => hb ⟨r, (hl.mem r).2 hr, er, h⟩
            omega
          · simp at c; subst c; exact Int.le_refl _
      · intro hp
        by_cases e : p.1 = h.1
        · rcases min_app_same hp e with ⟨rfl, -⟩ | ⟨hm, hc⟩
          · exact .inr rfl
          · exact absurd ⟨p, (hl.mem p).2 hm, e, hc⟩ hb
        · exact .inl ⟨(hl.mem p).2 (min_app hp e), e⟩
end Go.Proofs.Ytofgdgdmmlgmnaa.hyp
