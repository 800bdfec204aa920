/-
  Proved: what a heap of pairs is, and what the steps of a heap's sort do to it (plain lemmas).
  Conditions: those of each theorem.
-/
import Derived.Test.YtkcfghbkcgommaaRevQ
namespace Go.Proofs.Ytkcfghbkcgommaa.hp
open Go.ChangeShapes Go.WideShapes Go.ChangeAt Go.RowKit Go.Joins
open Go.Proofs.Ytkcfghbkcgommaa.core Go.Proofs.Ytkcfghbkcgommaa.rown Go.Proofs.Ytkcfghbkcgommaa.stk Go.Proofs.Ytkcfghbkcgommaa.boxed Go.Proofs.Ytkcfghbkcgommaa.put3 Go.Proofs.Ytkcfghbkcgommaa.ft Go.Proofs.Ytkcfghbkcgommaa.revQ
set_option linter.unusedVariables false
set_option linter.unusedSimpArgs false
/-- Less by cost, then by index. -/
def lt2 (p q : P2) : Prop := p.2 < q.2 ∨ (p.2 = q.2 ∧ p.1 < q.1)
theorem lt2_trans {p q r : P2} (h : lt2 p q) (k : lt2 q r) : lt2 p r := by unfold lt2 at *; omega
theorem lt2_irr {p : P2} (h : lt2 p p) : False := by unfold lt2 at h; omega
theorem lt2_asym {p q : P2} (h : lt2 p q) : ¬ lt2 q p := fun k => lt2_irr (lt2_trans h k)
theorem nlt_trans {p q r : P2} (h : ¬ lt2 p q) (k : ¬ lt2 q r) : ¬ lt2 p r := by unfold lt2 at *; omega
theorem nlt_lt {p q r : P2} (h : ¬ lt2 p q) (k : lt2 p r) : lt2 q r := by unfold lt2 at *; omega
theorem lt_nlt {p q r : P2} (h : lt2 p q) (k : ¬ lt2 r q) : lt2 p r := by unfold lt2 at *; omega
theorem lt2_tri {p q : P2} (h : p ≠ q) (k : ¬ lt2 p q) : lt2 q p := by
  obtain ⟨a, b⟩ := p
  obtain ⟨c, d⟩ := q
  unfold lt2 at *
  simp only at *
  by_cases e : b = d
  · have : a ≠ c := fun e' => h (by rw [e, e'])
    omega
  · omega
/-- The same pairs, each once, in the first n places. -/
structure Sm (n : Nat) (d e : Nat → P2) : Prop where
  into : ∀ j, j < n → ∃ i, i < n ∧ e j = d i
  back : ∀ i, i < n → ∃ j, j < n ∧ e j = d i
  inj : ∀ i j, i < n → j < n → e i = e j → i = j
theorem Sm.trans {n : Nat} {d e f : Nat → P2} (h : Sm n d e) (k : Sm n e f) : Sm n d f :=
  ⟨fun j h1 => by
    obtain ⟨i, a1, a2⟩ := k.into j h1
    obtain ⟨i', b1, b2⟩ := h.into i a1
    exact ⟨i', b1, a2.trans b2⟩, fun i h1 => by
    obtain ⟨j, a1, a2⟩ := h.back i h1
    obtain ⟨j', b1, b2⟩ := k.back j a1
    exact ⟨j', b1, b2.trans a2⟩, k.inj⟩
theorem Sm.cast {n : Nat} {d d' e e' : Nat → P2} (h : Sm n d e) (h1 : ∀ i, i < n → d i = d' i) (h2 : ∀ i, i < n → e i = e' i) : Sm n d' e' :=
  ⟨fun j hj => by
    obtain ⟨i, a, b⟩ := h.into j hj
    exact ⟨i, a, by rw [← h2 j hj, b, h1 i a]⟩, fun i hi => by
    obtain ⟨j, a, b⟩ := h.back i hi
    exact ⟨j, a, by rw [← h2 j a, b, h1 i hi]⟩, fun i j hi hj hij => h.inj i j hi hj (by rw [h2 i hi, h2 j hj, hij])⟩
def sw2 (d : Nat → P2) (i j : Nat) : Nat → P2 := put2 (put2 d i (d j)) j (d i)
theorem sw2_i {d : Nat → P2} {i j : Nat} : sw2 d i j i = d j := by
  unfold sw2 put2
  by_cases e : i = j
  · rw [if_pos e, e]
  · rw [if_neg e, if_pos rfl]
theorem sw2_j {d : Nat → P2} {i j : Nat} : sw2 d i j j = d i := by unfold sw2 put2; rw [if_pos rfl]
theorem sw2_ne {d : Nat → P2} {i j k : Nat} (h1 : k ≠ i) (h2 : k ≠ j) : sw2 d i j k = d k := by unfold sw2 put2; rw [if_neg h2, if_neg h1]
theorem Sm.swap {n : Nat} {d0 d : Nat → P2} (h : Sm n d0 d) {i j : Nat} (hi : i < n) (hj : j < n) : Sm n d0 (sw2 d i j) := by
  refine h.trans ⟨fun x h1 => ?_, fun x h1 => ?_, fun x y h1 h2 hxy => ?_⟩
  · by_cases e1 : x = i
    · exact ⟨j, hj, by rw [e1, sw2_i]⟩
    · by_cases e2 : x = j
      · exact ⟨i, hi, by rw [e2, sw2_j]⟩
      · exact ⟨x, h1, sw2_ne e1 e2⟩
  · by_cases e1 : x = i
    · exact ⟨j, hj, by rw [e1, sw2_j]⟩
    · by_cases e2 : x = j
      · exact ⟨i, hi, by rw [e2, sw2_i]⟩
      · exact ⟨x, h1, sw2_ne e1 e2⟩
  · have key : ∀ x, x < n → ∃ x', x' < n ∧ sw2 d i j x = d x' ∧ ((x = i ∧ x' = j) ∨ (x = j ∧ x' = i) ∨ (x ≠ i ∧ x ≠ j ∧ x' = x)) := fun x hx => by
      by_cases e1 : x = i
      · exact ⟨j, hj, by rw [e1, sw2_i], .inl ⟨e1, rfl⟩⟩
      · by_cases e2 : x = j
        · exact ⟨i, hi, by rw [e2, sw2_j], .inr (.inl ⟨e2, rfl⟩)⟩
        · exact ⟨x, hx, sw2_ne e1 e2, .inr (.inr ⟨e1, e2, rfl⟩)⟩
    obtain ⟨x', a1, a2, a3⟩ := key x h1
    obtain ⟨y', b1, b2, b3⟩ := key y h2
    have := h.inj x' y' a1 b1 (by rw [← a2, ← b2, hxy])
    omega
/-- A heap of the first n pairs. -/
def Hp (d : Nat → P2) (n : Nat) : Prop := ∀ k, 0 < k → k < n → ¬ lt2 (d k) (d ((k - 1) / 2))
theorem Hp.min {d : Nat → P2} {n : Nat} (h : Hp d n) : ∀ k, k < n → ¬ lt2 (d k) (d 0) := by
  intro k
  induction k using Nat.strongRecOn with
  | ind k ih =>
    intro hk
    rcases Nat.eq_zero_or_pos k with rfl | hp
    · exact fun h => lt2_irr h
    · exact nlt_trans (h k hp hk) (ih ((k - 1) / 2) (by omega) (by omega))
theorem Hp.cast {d e : Nat → P2} {n : Nat} (h : Hp d n) (he : ∀ k, k < n → d k = e k) : Hp e n := fun k h1 h2 => by
  rw [← he k h2, ← he _ (by omega)]; exact h k h1 h2
/-- The pair at j is on its way up. -/
structure HU (d : Nat → P2) (n j : Nat) : Prop where
  ok : ∀ k, 0 < k → k < n → k ≠ j → ¬ lt2 (d k) (d ((k - 1) / 2))
  gp : ∀ k, 0 < k → k < n → (k - 1) / 2 = j → 0 < j → ¬ lt2 (d k) (d ((j - 1) / 2))
theorem HU.start {d : Nat → P2} {n : Nat} (h : Hp d n) : HU d (n + 1) n :=
  ⟨fun k h1 h2 h3 => h k h1 (by omega), fun k h1 h2 h3 h4 => by omega⟩
theorem HU.step {d : Nat → P2} {n j i : Nat} (h : HU d n j) (hj : 0 < j) (hn : j < n) (hi : i = (j - 1) / 2) (hl : lt2 (d j) (d i)) : HU (sw2 d i j) n i := by
  have hij : i < j := by omega
  refine ⟨fun k h1 h2 h3 => ?_, fun k h1 h2 h3 h4 => ?_⟩
  · by_cases e : k = j
    · rw [e, sw2_j, ← hi, sw2_i]; exact lt2_asym hl
    · rw [sw2_ne h3 e]
      by_cases e1 : (k - 1) / 2 = j
      · rw [e1, sw2_j]
        have := h.gp k h1 h2 e1 hj
        rwa [← hi] at this
      · by_cases e2 : (k - 1) / 2 = i
        · rw [e2, sw2_i]
          have := h.ok k h1 h2 e
          rw [e2] at this
          exact fun c => this (lt2_trans c hl)
        · rw [sw2_ne e2 e1]; exact h.ok k h1 h2 e
  · have hg : (i - 1) / 2 < i := by omega
    rw [sw2_ne (k := (i - 1) / 2) (by omega) (by omega)]
    have h5 := h.ok i h4 (by omega) (by omega)
    by_cases e : k = j
    · rw [e, sw2_j]; exact h5
    · have h6 := h.ok k h1 h2 e
      rw [h3] at h6
      rw [sw2_ne (by omega) e]
      exact nlt_trans h6 h5
theorem HU.stop {d : Nat → P2} {n j : Nat} (h : HU d n j) (hx : j = 0 ∨ ¬ lt2 (d j) (d ((j - 1) / 2))) : Hp d n := fun k h1 h2 => by
  by_cases e : k = j
  · rcases hx with hx | hx
    · omega
    · rw [e]; exact hx
  · exact h.ok k h1 h2 e
/-- The pair at i is on its way down. -/
structure HD (d : Nat → P2) (n i : Nat) : Prop where
  ok : ∀ k, 0 < k → k < n → (k - 1) / 2 ≠ i → ¬ lt2 (d k) (d ((k - 1) / 2))
  gp : ∀ k, 0 < k → k < n → (k - 1) / 2 = i → 0 < i → ¬ lt2 (d k) (d ((i - 1) / 2))
theorem HD.start {d : Nat → P2} {n : Nat} (h : Hp d (n + 1)) : HD (sw2 d 0 n) n 0 :=
  ⟨fun k h1 h2 h3 => by
    rw [sw2_ne (by omega) (by omega), sw2_ne (by omega) (by omega)]
    exact h k h1 (by omega), fun k h1 h2 h3 h4 => by omega⟩
theorem HD.step {d : Nat → P2} {n i j : Nat} (h : HD d n i) (hn : j < n) (hj : j = 2 * i + 1 ∨ j = 2 * i + 2) (hl : lt2 (d j) (d i)) (hm : ∀ k, 0 < k → k < n → (k - 1) / 2 = i → ¬ lt2 (d k) (d j)) : HD (sw2 d i j) n j := by
  have hpj : (j - 1) / 2 = i := by omega
  refine ⟨fun k h1 h2 h3 => ?_, fun k h1 h2 h3 h4 => ?_⟩
  · by_cases e : (k - 1) / 2 = i
    · rw [e, sw2_i]
      by_cases e1 : k = j
      · rw [e1, sw2_j]; exact lt2_asym hl
      · rw [sw2_ne (by omega) e1]; exact hm k h1 h2 e
    · rw [sw2_ne (k := (k - 1) / 2) e h3]
      by_cases e1 : k = i
      · rw [e1, sw2_i]; exact h.gp j (by omega) hn hpj (by omega)
      · have e2 : k ≠ j := fun e2 => e (by rw [e2, hpj])
        rw [sw2_ne e1 e2]; exact h.ok k h1 h2 e
  · rw [hpj, sw2_i, sw2_ne (by omega) (by omega)]
    have := h.ok k h1 h2 (by omega)
    rwa [h3] at this
theorem HD.stop {d : Nat → P2} {n i : Nat} (h : HD d n i) (hm : ∀ k, 0 < k → k < n → (k - 1) / 2 = i → ¬ lt2 (d k) (d i)) : Hp d n := fun k h1 h2 => by
  by_cases e : (k - 1) / 2 = i
  · rw [e]; exact hm k h1 h2 e
  · exact h.ok k h1 h2 e
/-- N pairs, of which the first n are a heap and the others have been taken out, the least one first. -/
structure Out (d0 d : Nat → P2) (N n : Nat) : Prop where
  le : n ≤ N
  sm : Sm N d0 d
  hp : Hp d n
  desc : ∀ x y, n ≤ x → x < y → y < N → lt2 (d y) (d x)
  lo : ∀ k x, k < n → n ≤ x → x < N → lt2 (d x) (d k)
theorem Out.start {d0 d : Nat → P2} {N : Nat} (h : Sm N d0 d) (hp : Hp d N) : Out d0 d N N := ⟨Nat.le_refl _, h, hp, fun x y h1 h2 h3 => by omega, fun k x h1 h2 h3 => by omega⟩
/-- e: what the last pair's way down leaves behind. -/
theorem Out.next {d0 d e : Nat → P2} {N n : Nat} (h : Out d0 d N (n + 1)) (he : Sm n (sw2 d 0 n) e) (hf : ∀ x, n ≤ x → e x = sw2 d 0 n x) (hp : Hp e n) : Out d0 e N n := by
  have hN := h.le
  have hn : e n = d 0 := by rw [hf n (Nat.le_refl _), sw2_j]
  have hx : ∀ x, n + 1 ≤ x → e x = d x := fun x hx => by rw [hf x (by omega), sw2_ne (by omega) (by omega)]
  have hk : ∀ k, k < n → ∃ i, 0 < i ∧ i < n + 1 ∧ e k = d i := fun k hk => by
    obtain ⟨i, a, b⟩ := he.into k hk
    by_cases e1 : i = 0
    · exact ⟨n, by omega, by omega, by rw [b, e1, sw2_i]⟩
    · exact ⟨i, by omega, by omega, by rw [b, sw2_ne e1 (by omega)]⟩
  have hmin : ∀ i, 0 < i → i < n + 1 → lt2 (d 0) (d i) := fun i h1 h2 => by
    refine lt2_tri (fun e1 => ?_) (h.hp.min i h2)
    have := h.sm.inj i 0 (by omega) (by omega) e1
    omega
  have hsw := h.sm.swap (i := 0) (j := n) (by omega) (by omega)
  refine ⟨by omega, hsw.trans ⟨fun j hj => ?_, fun i hi => ?_, fun i j hi hj hij => ?_⟩, hp, fun x y h1 h2 h3 => ?_, fun k x h1 h2 h3 => ?_⟩
  · by_cases c : j < n
    · obtain ⟨i, a, b⟩ := he.into j c
      exact ⟨i, by omega, b⟩
    · exact ⟨j, hj, hf j (by omega)⟩
  · by_cases c : i < n
    · obtain ⟨j, a, b⟩ := he.back i c
      exact ⟨j, by omega, b⟩
    · exact ⟨i, hi, hf i (by omega)⟩
  · by_cases c1 : i < n <;> by_cases c2 : j < n
    · exact he.inj i j c1 c2 hij
    · obtain ⟨i', a, b⟩ := he.into i c1
      rw [b, hf j (by omega)] at hij
      have := hsw.inj i' j (by omega) hj hij
      omega
    · obtain ⟨j', a, b⟩ := he.into j c2
      rw [b, hf i (by omega)] at hij
      have := hsw.inj i j' hi (by omega) hij
      omega
    · rw [hf i (by omega), hf j (by omega)] at hij
      exact hsw.inj i j hi hj hij
  · rw [hx y (by omega)]
    by_cases c : x = n
    · rw [c, hn]; exact h.lo 0 y (by omega) (by omega) h3
    · rw [hx x (by omega)]; exact h.desc x y (by omega) h2 h3
  · obtain ⟨i, a1, a2, a3⟩ := hk k h1
    rw [a3]
    by_cases c : x = n
    · rw [c, hn]; exact hmin i a1 a2
    · rw [hx x (by omega)]; exact h.lo i x a2 (by omega) h3
/-- In ascending order. -/
def Asc (s : Nat → P2) (n : Nat) : Prop := ∀ i j, i < j → j < n → lt2 (s i) (s j)
/-- What has been taken out are the least ones in their order. -/
theorem Out.sorted {d0 d s : Nat → P2} {N n : Nat} (h : Out d0 d N n) (hs : Asc s N) (hm : Sm N d0 s) : ∀ i, i < N - n → d (N - 1 - i) = s i := by
  intro i
  induction i using Nat.strongRecOn with
  | ind i ih =>
    intro hi
    have hle := h.le
    obtain ⟨i1, a1, a2⟩ := h.sm.into (N - 1 - i) (by omega)
    obtain ⟨j, b1, b2⟩ := hm.back i1 a1
    have e1 : d (N - 1 - i) = s j := by rw [a2, b2]
    rcases Nat.lt_trichotomy j i with c | c | c
    · have h1 := ih j c (by omega)
      have h2 := h.sm.inj (N - 1 - i) (N - 1 - j) (by omega) (by omega) (by rw [e1, h1])
      omega
    · rw [e1, c]
    · obtain ⟨i2, c1, c2⟩ := hm.into i (by omega)
      obtain ⟨x, d1, d2⟩ := h.sm.back i2 c1
      have e2 : d x = s i := by rw [d2, c2]
      have h3 : lt2 (d x) (d (N - 1 - i)) := by rw [e2, e1]; exact hs i j c b1
      by_cases c3 : x < N - i
      · exfalso
        by_cases c4 : x < n
        · exact lt2_irr (lt2_trans h3 (h.lo x (N - 1 - i) c4 (by omega) (by omega)))
        · by_cases c5 : x = N - 1 - i
          · rw [c5] at h3; exact lt2_irr h3
          · exact lt2_irr (lt2_trans h3 (h.desc x (N - 1 - i) (by omega) (by omega) (by omega)))
      · obtain ⟨y, rfl⟩ : ∃ y, x = N - 1 - y := ⟨N - 1 - x, by omega⟩
        have h4 := ih (N - 1 - (N - 1 - y)) (by omega) (by omega)
        have e3 : N - 1 - (N - 1 - (N - 1 - y)) = N - 1 - y := by omega
        rw [e3, e2] at h4
        by_cases c6 : N - 1 - (N - 1 - y) = i
        · omega
        · have := hs (N - 1 - (N - 1 - y)) i (by omega) (by omega)
          rw [h4] at this
          exact (lt2_irr this).elim
end Go.Proofs.Ytkcfghbkcgommaa.hp
