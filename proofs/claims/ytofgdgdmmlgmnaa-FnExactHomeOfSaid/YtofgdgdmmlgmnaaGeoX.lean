/-
  Proved: plain facts on segments that have a point in common.
  Conditions: none.
-/
import Derived.Lib.Hide
namespace Go.Proofs.Ytofgdgdmmlgmnaa.geoM
set_option linter.unusedVariables false
set_option linter.unusedSimpArgs false

theorem sq_nonneg (a : Int) : 0 ≤ a * a := by
  rcases Int.le_total 0 a with h | h
  · exact Int.mul_nonneg h h
  · have := Int.mul_nonneg (Int.neg_nonneg_of_nonpos h) (Int.neg_nonneg_of_nonpos h)
    rwa [Int.neg_mul_neg] at this
/-- Twice the area of a triangle, with its sign. -/
def crs (ax ay bx b_y cx cy : Int) : Int := (bx - ax) * (cy - ay) - (b_y - ay) * (cx - ax)
def onS (ax ay bx b_y px py : Int) : Prop := min ax bx ≤ px ∧ px ≤ max ax bx ∧ min ay b_y ≤ py ∧ py ≤ max ay b_y
def ovl (ax ay bx b_y cx cy dx dy : Int) : Prop := min ax bx ≤ max cx dx ∧ min cx dx ≤ max ax bx ∧ min ay b_y ≤ max cy dy ∧ min cy dy ≤ max ay b_y

theorem quad (ux uy vx vy wx wy : Int) (h : ux * vy = uy * vx) (hA0 : ux * vx ≤ 0) (hB0 : uy * vy ≤ 0) : (wx*uy-wy*ux)*(wx*vy-wy*vx) ≤ 0 := by
  obtain ⟨A, hA⟩ : ∃ A, A = -(ux*vx) := ⟨_, rfl⟩
  obtain ⟨B, hB⟩ : ∃ B, B = -(uy*vy) := ⟨_, rfl⟩
  obtain ⟨k, h1⟩ : ∃ k, k = ux * vy := ⟨_, rfl⟩
  have hA0 : 0 ≤ A := by omega
  have hB0 : 0 ≤ B := by omega
  have e : (wx*uy-wy*ux)*(wx*vy-wy*vx) = -(wx*wx*B + 2*wx*wy*k + wy*wy*A) := by grind
  have e2 : k*k = A*B := by grind
  have sq : 0 ≤ (B*wx+k*wy)*(B*wx+k*wy) := sq_nonneg _
  have e3 : B*(wx*wx*B + 2*wx*wy*k + wy*wy*A) = (B*wx+k*wy)*(B*wx+k*wy) := by grind
  rw [e]
  rcases Int.lt_or_eq_of_le hB0 with h | h
  · have : 0 ≤ wx*wx*B + 2*wx*wy*k + wy*wy*A := by
      rw [← e3] at sq
      exact Int.nonneg_of_mul_nonneg_right sq h
    omega
  · have hk : k = 0 := by
      have : k*k = 0 := by rw [e2, ← h]; simp
      rcases Int.mul_eq_zero.mp this with h | h <;> exact h
    rw [hk, ← h]
    have := Int.mul_nonneg (sq_nonneg wy) hA0
    simp
    omega

theorem between (a b p : Int) (h : min a b ≤ p) (h' : p ≤ max a b) : (a - p) * (b - p) ≤ 0 := by
  rcases Int.le_total a b with g | g
  · have h1 : 0 ≤ p - a := by omega
    have h2 : 0 ≤ b - p := by omega
    have := Int.mul_nonneg h1 h2
    have e : (a - p) * (b - p) = -((p - a) * (b - p)) := by grind
    omega
  · have h1 : 0 ≤ a - p := by omega
    have h2 : 0 ≤ p - b := by omega
    have := Int.mul_nonneg h1 h2
    have e : (a - p) * (b - p) = -((a - p) * (p - b)) := by grind
    omega
theorem outside (a b p : Int) (h : ¬ (min a b ≤ p ∧ p ≤ max a b)) : 0 < (a - p) * (b - p) := by
  by_cases g : p < min a b
  · exact Int.mul_pos (by omega) (by omega)
  · have h1 : 0 < p - a := by omega
    have h2 : 0 < p - b := by omega
    have := Int.mul_pos h1 h2
    have e : (a - p) * (b - p) = (p - a) * (p - b) := by grind
    omega

/-- A point of a segment lies between the ends of the other one's line. -/
theorem on_sides (ax ay bx b_y cx cy dx dy : Int) (hp : crs ax ay bx b_y cx cy = 0) (h : onS ax ay bx b_y cx cy) :
    crs cx cy dx dy ax ay * crs cx cy dx dy bx b_y ≤ 0 := by
  obtain ⟨h1, h2, h3, h4⟩ := h
  have X := between ax bx cx h1 h2
  have Y := between ay b_y cy h3 h4
  have hk : (ax - cx) * (b_y - cy) = (ay - cy) * (bx - cx) := by unfold crs at hp; grind
  exact quad (ax - cx) (ay - cy) (bx - cx) (b_y - cy) (dx - cx) (dy - cy) hk X Y

/-- A point on the line, but not of the segment, has both ends on the same side. -/
theorem off_sides (ax ay bx b_y cx cy dx dy : Int) (hp : crs ax ay bx b_y cx cy = 0) (h : ¬ onS ax ay bx b_y cx cy)
    (hle : crs cx cy dx dy ax ay * crs cx cy dx dy bx b_y ≤ 0) : crs cx cy dx dy ax ay = 0 ∧ crs cx cy dx dy bx b_y = 0 := by
  have hk : (ax - cx) * (b_y - cy) = (ay - cy) * (bx - cx) := by unfold crs at hp; grind
  unfold crs at hle ⊢
  generalize dx - cx = wx at *
  generalize dy - cy = wy at *
  have ho : ¬ (min ax bx ≤ cx ∧ cx ≤ max ax bx) ∨ ¬ (min ay b_y ≤ cy ∧ cy ≤ max ay b_y) := by
    unfold onS at h
    by_cases g : min ax bx ≤ cx ∧ cx ≤ max ax bx
    · right; intro g2; exact h ⟨g.1, g.2, g2.1, g2.2⟩
    · exact .inl g
  have key : ∀ ux uy vx vy wx wy : Int, ux * vy = uy * vx → 0 < ux * vx → (wx*uy-wy*ux)*(wx*vy-wy*vx) ≤ 0 → wx*uy-wy*ux = 0 ∧ wx*vy-wy*vx = 0 := by
    intro ux uy vx vy wx wy hk hx hle
    -- ux * T = vx * R
    have e : ux * (wx*vy-wy*vx) = vx * (wx*uy-wy*ux) := by grind
    have hu : ux ≠ 0 := by rintro rfl; simp at hx
    have hv : vx ≠ 0 := by rintro rfl; simp at hx
    generalize wx*uy-wy*ux = R at *
    generalize wx*vy-wy*vx = T at *
    have e1 : (ux * vx) * (T * R) = (ux * T) * (ux * T) := by grind
    have e2 : 0 ≤ (ux * T) * (ux * T) := sq_nonneg _
    have e3 : (ux * vx) * (T * R) ≤ 0 := by
      have := Int.mul_nonneg (Int.le_of_lt hx) (show 0 ≤ -(T * R) by have : T * R = R * T := Int.mul_comm _ _; omega)
      have e4 : ux * vx * -(T * R) = -(ux * vx * (T * R)) := by grind
      omega
    have e5 : (ux * T) * (ux * T) = 0 := by omega
    have e6 : T = 0 := by
      rcases Int.mul_eq_zero.mp e5 with h | h <;> rcases Int.mul_eq_zero.mp h with h | h <;> first | exact h | exact absurd h hu
    subst e6
    have e7 : vx * R = 0 := by rw [← e]; simp
    rcases Int.mul_eq_zero.mp e7 with h | h
    · exact absurd h hv
    · exact ⟨h, rfl⟩
  rcases ho with ho | ho
  · exact key _ _ _ _ _ _ hk (outside _ _ _ ho) hle
  · have := key (ay - cy) (ax - cx) (b_y - cy) (bx - cx) wy wx hk.symm (outside _ _ _ ho) (by
      have e : (wy * (ax - cx) - wx * (ay - cy)) * (wy * (bx - cx) - wx * (b_y - cy)) = (wx * (ay - cy) - wy * (ax - cx)) * (wx * (b_y - cy) - wy * (bx - cx)) := by grind
      rw [e]; exact hle)
    exact ⟨by omega, by omega⟩

/-- Segments that cross have boxes that overlap. -/
theorem cross_line (p q r t a b c d : Int) (h1 : r - t = q - p) (h2 : r * b - t * a = q * c - p * d) (hpq : p * q < 0) (hrt : r * t < 0) : min a b ≤ max c d ∧ min c d ≤ max a b := by
  have key : ∀ p q r t : Int, r - t = q - p → r * b - t * a = q * c - p * d → 0 < r → t < 0 → 0 < q → p < 0 → min a b ≤ max c d ∧ min c d ≤ max a b := by
    intro p q r t h1 h2 hr ht hq hp
    have up : ∀ M x y z : Int, 0 < x → y < 0 → ∀ b a : Int, a ≤ M → b ≤ M → x * b - y * a ≤ (x - y) * M := by
      intro M x y z hx hy b a ha hb
      have g1 := Int.mul_nonneg (Int.le_of_lt hx) (show 0 ≤ M - b by omega)
      have g2 := Int.mul_nonneg (show 0 ≤ -y by omega) (show 0 ≤ M - a by omega)
      have e : (x - y) * M - (x * b - y * a) = x * (M - b) + -y * (M - a) := by grind
      omega
    have lo : ∀ M x y z : Int, 0 < x → y < 0 → ∀ b a : Int, M ≤ a → M ≤ b → (x - y) * M ≤ x * b - y * a := by
      intro M x y z hx hy b a ha hb
      have g1 := Int.mul_nonneg (Int.le_of_lt hx) (show 0 ≤ b - M by omega)
      have g2 := Int.mul_nonneg (show 0 ≤ -y by omega) (show 0 ≤ a - M by omega)
      have e : (x * b - y * a) - (x - y) * M = x * (b - M) + -y * (a - M) := by grind
      omega
    have u1 := up (max a b) r t 0 hr ht b a (by omega) (by omega)
    have u2 := up (max c d) q p 0 hq hp c d (by omega) (by omega)
    have l1 := lo (min a b) r t 0 hr ht b a (by omega) (by omega)
    have l2 := lo (min c d) q p 0 hq hp c d (by omega) (by omega)
    have hd : 0 < r - t := by omega
    rw [← h1] at u2 l2
    constructor
    · refine Int.le_of_mul_le_mul_left (a := r - t) ?_ hd; omega
    · refine Int.le_of_mul_le_mul_left (a := r - t) ?_ hd; omega
  have hr0 : r ≠ 0 := by rintro rfl; simp at hrt
  have hp0 : p ≠ 0 := by rintro rfl; simp at hpq
  have sgn : ∀ x y : Int, x * y < 0 → 0 < x → y < 0 := by
    intro x y h hx
    rcases Int.lt_or_le y 0 with g | g
    · exact g
    · have := Int.mul_nonneg (Int.le_of_lt hx) g; omega
  have sgn' : ∀ x y : Int, x * y < 0 → x < 0 → 0 < y := by
    intro x y h hx
    have := sgn (-x) (-y) (by have e : -x * -y = x * y := by grind
                              omega) (by omega)
    omega
  rcases Int.lt_or_gt_of_ne hr0 with hr | hr <;> rcases Int.lt_or_gt_of_ne hp0 with hp | hp
  · have ht := sgn' _ _ hrt hr
    have hq := sgn' _ _ hpq hp
    omega
  · have ht := sgn' _ _ hrt hr
    have hq := sgn _ _ hpq hp
    exact key (-p) (-q) (-r) (-t) (by omega) (by have e1 : -r * b - -t * a = -(r * b - t * a) := by grind
                                                 have e2 : -q * c - -p * d = -(q * c - p * d) := by grind
                                                 omega) (by omega) (by omega) (by omega) (by omega)
  · have ht := sgn _ _ hrt hr
    have hq := sgn' _ _ hpq hp
    exact key p q r t h1 h2 hr ht hq hp
  · have ht := sgn _ _ hrt hr
    have hq := sgn _ _ hpq hp
    omega

theorem crs_ovl (ax ay bx b_y cx cy dx dy : Int) (hpq : crs ax ay bx b_y cx cy * crs ax ay bx b_y dx dy < 0)
    (hrt : crs cx cy dx dy ax ay * crs cx cy dx dy bx b_y < 0) : ovl ax ay bx b_y cx cy dx dy := by
  have h1 : crs cx cy dx dy ax ay - crs cx cy dx dy bx b_y = crs ax ay bx b_y dx dy - crs ax ay bx b_y cx cy := by unfold crs; grind
  have h2 : crs cx cy dx dy ax ay * bx - crs cx cy dx dy bx b_y * ax = crs ax ay bx b_y dx dy * cx - crs ax ay bx b_y cx cy * dx := by unfold crs; grind
  have h3 : crs cx cy dx dy ax ay * b_y - crs cx cy dx dy bx b_y * ay = crs ax ay bx b_y dx dy * cy - crs ax ay bx b_y cx cy * dy := by unfold crs; grind
  have x := cross_line _ _ _ _ _ _ _ _ h1 h2 hpq hrt
  have y := cross_line _ _ _ _ _ _ _ _ h1 h3 hpq hrt
  exact ⟨x.1, x.2, y.1, y.2⟩

/-- A point of a line whose x lies between those of two others lies between them. -/
theorem line_between (ax ay bx b_y cx cy : Int) (hne : ax ≠ bx) (hp : crs ax ay bx b_y cx cy = 0) (h1 : min ax bx ≤ cx) (h2 : cx ≤ max ax bx) : min ay b_y ≤ cy ∧ cy ≤ max ay b_y := by
  have hX := between ax bx cx h1 h2
  have hk : (ax - cx) * (b_y - cy) = (ay - cy) * (bx - cx) := by unfold crs at hp; grind
  rcases Decidable.em (min ay b_y ≤ cy ∧ cy ≤ max ay b_y) with h | h
  · exact h
  · exfalso
    have hY := outside _ _ _ h
    generalize hac : ax - cx = u at *
    generalize hbc : bx - cx = v at *
    have e : (ay - cy) * (b_y - cy) * (v * v) = (u * v) * ((b_y - cy) * (b_y - cy)) := by grind
    have s1 := sq_nonneg (b_y - cy)
    have s2 : (u * v) * ((b_y - cy) * (b_y - cy)) ≤ 0 := by
      have := Int.mul_nonneg (show 0 ≤ -(u * v) by omega) s1
      have e4 : -(u * v) * ((b_y - cy) * (b_y - cy)) = -(u * v * ((b_y - cy) * (b_y - cy))) := by grind
      omega
    have v0 : v * v = 0 := by
      rcases Int.lt_or_eq_of_le (sq_nonneg v) with g | g
      · have := Int.mul_pos hY g; omega
      · exact g.symm
    have v1 : v = 0 := by rcases Int.mul_eq_zero.mp v0 with h | h <;> exact h
    subst v1
    have : u * (b_y - cy) = 0 := by rw [hk]; simp
    rcases Int.mul_eq_zero.mp this with h | h
    · omega
    · rw [h] at hY; simp at hY


theorem crs_swap (ax ay bx b_y cx cy : Int) (h : crs ax ay bx b_y cx cy = 0) : crs ay ax b_y bx cy cx = 0 := by
  unfold crs at *; grind
/-- On one line, overlapping boxes have an end of one segment in the other one. -/
theorem flat_on (ax ay bx b_y cx cy dx dy : Int) (hp : crs ax ay bx b_y cx cy = 0) (hq : crs ax ay bx b_y dx dy = 0) (hr : crs cx cy dx dy ax ay = 0) (ht : crs cx cy dx dy bx b_y = 0)
    (ho : ovl ax ay bx b_y cx cy dx dy) : onS ax ay bx b_y cx cy ∨ onS ax ay bx b_y dx dy ∨ onS cx cy dx dy ax ay ∨ onS cx cy dx dy bx b_y := by
  obtain ⟨o1, o2, o3, o4⟩ := ho
  -- one coordinate in which not all are equal decides
  have key : ∀ ax ay bx b_y cx cy dx dy : Int, crs ax ay bx b_y cx cy = 0 → crs ax ay bx b_y dx dy = 0 → crs cx cy dx dy ax ay = 0 → crs cx cy dx dy bx b_y = 0 →
      min ax bx ≤ max cx dx → min cx dx ≤ max ax bx → min ay b_y ≤ max cy dy → min cy dy ≤ max ay b_y → ax ≠ bx → cx ≠ dx → onS ax ay bx b_y cx cy ∨ onS ax ay bx b_y dx dy ∨ onS cx cy dx dy ax ay ∨ onS cx cy dx dy bx b_y := by
    intro ax ay bx b_y cx cy dx dy hp hq hr ht o1 o2 o3 o4 hab hcd
    by_cases h1 : min ax bx ≤ cx ∧ cx ≤ max ax bx
    · have := line_between _ _ _ _ _ _ hab hp h1.1 h1.2
      exact .inl ⟨h1.1, h1.2, this.1, this.2⟩
    by_cases h2 : min ax bx ≤ dx ∧ dx ≤ max ax bx
    · have := line_between _ _ _ _ _ _ hab hq h2.1 h2.2
      exact .inr (.inl ⟨h2.1, h2.2, this.1, this.2⟩)
    have h3 : min cx dx ≤ ax ∧ ax ≤ max cx dx := by omega
    have := line_between _ _ _ _ _ _ hcd hr h3.1 h3.2
    exact .inr (.inr (.inl ⟨h3.1, h3.2, this.1, this.2⟩))
  have swap : ∀ a b c d e f : Int, onS b a d c f e → onS a b c d e f := fun a b c d e f h => ⟨h.2.2.1, h.2.2.2, h.1, h.2.1⟩
  by_cases e1 : ax = bx
  · by_cases e2 : ay = b_y
    · -- a and b are one point
      by_cases e3 : cx = dx
      · by_cases e4 : cy = dy
        · left; unfold onS; omega
        · -- vertical: a has the x of the line, or not
          have hx : ax = cx := by omega
          right; right; left; unfold onS; omega
      · by_cases e4 : cy = dy
        · right; right; left; unfold onS; omega
        · right; right; left
          have h3 : min cx dx ≤ ax ∧ ax ≤ max cx dx := by omega
          have := line_between _ _ _ _ _ _ e3 hr h3.1 h3.2
          exact ⟨h3.1, h3.2, this.1, this.2⟩
    · by_cases e3 : cx = dx
      · have hx : ax = cx := by omega
        unfold onS; omega
      · by_cases e4 : cy = dy
        · by_cases h1 : min ax bx ≤ cx ∧ cx ≤ max ax bx
          · left; unfold onS; omega
          · by_cases h2 : min ax bx ≤ dx ∧ dx ≤ max ax bx
            · right; left; unfold onS; omega
            · exfalso
              -- c and d are on the vertical line through a
              have h5 : (b_y - ay) * (cx - ax) = 0 := by unfold crs at hp; grind
              rcases Int.mul_eq_zero.mp h5 with h | h <;> omega
        · have k := key ay ax b_y bx cy cx dy dx (crs_swap _ _ _ _ _ _ hp) (crs_swap _ _ _ _ _ _ hq) (crs_swap _ _ _ _ _ _ hr) (crs_swap _ _ _ _ _ _ ht) o3 o4 o1 o2 e2 e4
          rcases k with k | k | k | k
          · exact .inl (swap _ _ _ _ _ _ k)
          · exact .inr (.inl (swap _ _ _ _ _ _ k))
          · exact .inr (.inr (.inl (swap _ _ _ _ _ _ k)))
          · exact .inr (.inr (.inr (swap _ _ _ _ _ _ k)))
  · by_cases e3 : cx = dx
    · by_cases e4 : cy = dy
      · left
        have h3 : min ax bx ≤ cx ∧ cx ≤ max ax bx := by omega
        have := line_between _ _ _ _ _ _ e1 hp h3.1 h3.2
        exact ⟨h3.1, h3.2, this.1, this.2⟩
      · exfalso
        have h1 : (dy - cy) * (ax - cx) = 0 := by unfold crs at hr; grind
        have h2 : (dy - cy) * (bx - cx) = 0 := by unfold crs at ht; grind
        rcases Int.mul_eq_zero.mp h1 with h | h <;> rcases Int.mul_eq_zero.mp h2 with g | g <;> omega
    · exact key _ _ _ _ _ _ _ _ hp hq hr ht o1 o2 o3 o4 e1 e3

theorem onS_ovl1 (ax ay bx b_y cx cy dx dy : Int) (h : onS ax ay bx b_y cx cy) : ovl ax ay bx b_y cx cy dx dy := by
  unfold onS at h; unfold ovl; omega
theorem onS_ovl2 (ax ay bx b_y cx cy dx dy : Int) (h : onS ax ay bx b_y dx dy) : ovl ax ay bx b_y cx cy dx dy := by
  unfold onS at h; unfold ovl; omega
theorem ovl_swap (ax ay bx b_y cx cy dx dy : Int) (h : ovl cx cy dx dy ax ay bx b_y) : ovl ax ay bx b_y cx cy dx dy := by
  unfold ovl at *; omega
theorem crs_ends (cx cy dx dy ax ay : Int) : crs dx dy cx cy ax ay = - crs cx cy dx dy ax ay := by unfold crs; grind
theorem onS_ends (ax ay bx b_y px py : Int) (h : onS ax ay bx b_y px py) : onS bx b_y ax ay px py := by unfold onS at *; omega

/-- Two segments have a point in common: the document's text and the program's say the same. -/
theorem meet_iff (ax ay bx b_y cx cy dx dy : Int) :
    ((crs ax ay bx b_y cx cy * crs ax ay bx b_y dx dy < 0 ∧ crs cx cy dx dy ax ay * crs cx cy dx dy bx b_y < 0) ∨
      (crs ax ay bx b_y cx cy = 0 ∧ onS ax ay bx b_y cx cy) ∨ (crs ax ay bx b_y dx dy = 0 ∧ onS ax ay bx b_y dx dy) ∨
      (crs cx cy dx dy ax ay = 0 ∧ onS cx cy dx dy ax ay) ∨ (crs cx cy dx dy bx b_y = 0 ∧ onS cx cy dx dy bx b_y)) ↔
    (ovl ax ay bx b_y cx cy dx dy ∧ crs cx cy dx dy ax ay * crs cx cy dx dy bx b_y ≤ 0 ∧ crs ax ay bx b_y cx cy * crs ax ay bx b_y dx dy ≤ 0) := by
  constructor
  · rintro (⟨h1, h2⟩ | ⟨h1, h2⟩ | ⟨h1, h2⟩ | ⟨h1, h2⟩ | ⟨h1, h2⟩)
    · exact ⟨crs_ovl _ _ _ _ _ _ _ _ h1 h2, by omega, by omega⟩
    · exact ⟨onS_ovl1 _ _ _ _ _ _ _ _ h2, on_sides _ _ _ _ _ _ _ _ h1 h2, by rw [h1]; simp⟩
    · refine ⟨onS_ovl2 _ _ _ _ _ _ _ _ h2, ?_, by rw [h1]; simp⟩
      have := on_sides _ _ _ _ dx dy cx cy h1 h2
      rw [crs_ends cx cy dx dy, crs_ends cx cy dx dy, Int.neg_mul_neg] at this
      exact this
    · exact ⟨ovl_swap _ _ _ _ _ _ _ _ (onS_ovl1 _ _ _ _ _ _ _ _ h2), by rw [h1]; simp, on_sides _ _ _ _ _ _ _ _ h1 h2⟩
    · refine ⟨ovl_swap _ _ _ _ _ _ _ _ (onS_ovl2 _ _ _ _ _ _ _ _ h2), by rw [h1]; simp, ?_⟩
      have := on_sides _ _ _ _ bx b_y ax ay h1 h2
      rw [crs_ends ax ay bx b_y, crs_ends ax ay bx b_y, Int.neg_mul_neg] at this
      exact this
  · rintro ⟨ho, h2, h1⟩
    by_cases z1 : crs ax ay bx b_y cx cy = 0
    · by_cases o1 : onS ax ay bx b_y cx cy
      · exact .inr (.inl ⟨z1, o1⟩)
      · obtain ⟨z3, z4⟩ := off_sides _ _ _ _ _ _ _ _ z1 o1 h2
        have z2 : crs ax ay bx b_y dx dy = 0 := by
          have e : crs ax ay bx b_y dx dy = crs cx cy dx dy ax ay - crs cx cy dx dy bx b_y + crs ax ay bx b_y cx cy := by unfold crs; grind
          omega
        rcases flat_on _ _ _ _ _ _ _ _ z1 z2 z3 z4 ho with h | h | h | h
        · exact .inr (.inl ⟨z1, h⟩)
        · exact .inr (.inr (.inl ⟨z2, h⟩))
        · exact .inr (.inr (.inr (.inl ⟨z3, h⟩)))
        · exact .inr (.inr (.inr (.inr ⟨z4, h⟩)))
    by_cases z2 : crs ax ay bx b_y dx dy = 0
    · by_cases o2 : onS ax ay bx b_y dx dy
      · exact .inr (.inr (.inl ⟨z2, o2⟩))
      · obtain ⟨z3, z4⟩ := off_sides _ _ _ _ dx dy cx cy z2 o2 (by rw [crs_ends cx cy dx dy, crs_ends cx cy dx dy, Int.neg_mul_neg]; exact h2)
        rw [crs_ends cx cy dx dy] at z3 z4
        exfalso
        have e : crs ax ay bx b_y dx dy = crs cx cy dx dy ax ay - crs cx cy dx dy bx b_y + crs ax ay bx b_y cx cy := by unfold crs; grind
        omega
    by_cases z3 : crs cx cy dx dy ax ay = 0
    · by_cases o3 : onS cx cy dx dy ax ay
      · exact .inr (.inr (.inr (.inl ⟨z3, o3⟩)))
      · exact absurd (off_sides _ _ _ _ _ _ _ _ z3 o3 h1).1 z1
    by_cases z4 : crs cx cy dx dy bx b_y = 0
    · by_cases o4 : onS cx cy dx dy bx b_y
      · exact .inr (.inr (.inr (.inr ⟨z4, o4⟩)))
      · have := (off_sides _ _ _ _ bx b_y ax ay z4 o4 (by rw [crs_ends ax ay bx b_y, crs_ends ax ay bx b_y, Int.neg_mul_neg]; exact h1)).1
        rw [crs_ends ax ay bx b_y] at this
        exfalso; omega
    left
    have n1 : crs ax ay bx b_y cx cy * crs ax ay bx b_y dx dy ≠ 0 := fun h => by rcases Int.mul_eq_zero.mp h with h | h <;> contradiction
    have n2 : crs cx cy dx dy ax ay * crs cx cy dx dy bx b_y ≠ 0 := fun h => by rcases Int.mul_eq_zero.mp h with h | h <;> contradiction
    omega
end Go.Proofs.Ytofgdgdmmlgmnaa.geoM
