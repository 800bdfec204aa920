/-
  Proved: plain lemmas on lists of labels with costs: their order, the least cost of each label, and when such a list is in order.
  Conditions: those of each lemma.
-/
import Derived.Test.YtofgdgdmmlgmnaaLab
import Derived.Maps.OwnSet
import Derived.Sort.KeysCollected
import Derived.Sort.Walk0
namespace Go.Proofs.Ytofgdgdmmlgmnaa.hyp
open Go.ChangeShapes Go.WideShapes Go.ChangeAt Go.RowKit Go.Joins
open Go.Proofs.Ytofgdgdmmlgmnaa.core Go.Proofs.Ytofgdgdmmlgmnaa.lab
set_option linter.unusedVariables false
set_option linter.unusedSimpArgs false
/-- A label with its cost. -/
abbrev Hy := ByteArray × Int
def ltS (s t : ByteArray) : Bool := Op.bytesLess s.toList t.toList
theorem ltS_iff {s t : ByteArray} : ltS s t = true ↔ s.toList < t.toList := by
  unfold ltS
  rw [Proofs.bytesLess_eq]
  simp
theorem toList_inj {s t : ByteArray} (e : s.toList = t.toList) : s = t := by
  rw [ByteArray.toList_eq, ByteArray.toList_eq] at e
  have : s.data = t.data := Array.toList_inj.1 e
  cases s; cases t; simp at this; rw [this]
theorem ltS_irr (s : ByteArray) : ltS s s = false := by
  cases h : ltS s s with
  | false => rfl
  | true => exact absurd (ltS_iff.1 h) (List.lt_irrefl _)
theorem ltS_trans {s t u : ByteArray} (h1 : ltS s t = true) (h2 : ltS t u = true) : ltS s u = true := ltS_iff.2 (List.lt_trans (ltS_iff.1 h1) (ltS_iff.1 h2))
theorem ltS_tot {s t : ByteArray} (h1 : ltS s t = false) (h2 : ltS t s = false) : s = t := by
  have h1' : ¬ s.toList < t.toList := fun h => by rw [ltS_iff.2 h] at h1; cases h1
  have h2' : ¬ t.toList < s.toList := fun h => by rw [ltS_iff.2 h] at h2; cases h2
  exact toList_inj (List.le_antisymm (show s.toList ≤ t.toList from h2') (show t.toList ≤ s.toList from h1'))
/-- p is before q: less cost, or the same cost and a lesser label. -/
def bef (p q : Hy) : Bool := decide (p.2 < q.2) || (decide (p.2 = q.2) && ltS p.1 q.1)
theorem bef_iff {p q : Hy} : bef p q = true ↔ p.2 < q.2 ∨ (p.2 = q.2 ∧ ltS p.1 q.1 = true) := by unfold bef; simp
theorem bef_irr (p : Hy) : bef p p = false := by
  cases h : bef p p with
  | false => rfl
  | true =>
    rcases bef_iff.1 h with h | ⟨-, h⟩
    · omega
    · rw [ltS_irr] at h; cases h
theorem bef_trans {p q r : Hy} (h1 : bef p q = true) (h2 : bef q r = true) : bef p r = true := by
  rw [bef_iff] at *
  rcases h1 with h1 | ⟨e1, l1⟩ <;> rcases h2 with h2 | ⟨e2, l2⟩
  · left; omega
  · left; omega
  · left; omega
  · exact .inr ⟨by omega, ltS_trans l1 l2⟩
theorem bef_asym {p q : Hy} (h1 : bef p q = true) : bef q p = false := by
  cases h : bef q p with
  | false => rfl
  | true => have := bef_trans h1 h; rw [bef_irr] at this; cases this
theorem bef_tot {p q : Hy} (h1 : bef p q = false) (h2 : bef q p = false) : p = q := by
  have h1' : ¬ bef p q = true := by rw [h1]; exact fun h => by cases h
  have h2' : ¬ bef q p = true := by rw [h2]; exact fun h => by cases h
  rw [bef_iff] at h1' h2'
  have e : p.2 = q.2 := by
    have a1 : ¬ p.2 < q.2 := fun h => h1' (.inl h)
    have a2 : ¬ q.2 < p.2 := fun h => h2' (.inl h)
    omega
  have l1 : ltS p.1 q.1 = false := by
    cases h : ltS p.1 q.1 with
    | false => rfl
    | true => exact absurd (.inr ⟨e, h⟩) h1'
  have l2 : ltS q.1 p.1 = false := by
    cases h : ltS q.1 p.1 with
    | false => rfl
    | true => exact absurd (.inr ⟨e.symm, h⟩) h2'
  exact Prod.ext (ltS_tot l1 l2) e
/-- p has the least cost of its label. -/
def MinL (xs : List Hy) (p : Hy) : Prop := p ∈ xs ∧ ∀ q ∈ xs, q.1 = p.1 → p.2 ≤ q.2
theorem min_uniq {xs : List Hy} {p q : Hy} (hp : MinL xs p) (hq : MinL xs q) (e : q.1 = p.1) : p = q := by
  have h1 := hp.2 q hq.1 e
  have h2 := hq.2 p hp.1 e.symm
  exact Prod.ext e.symm (by omega)
/-- The least costs, in their order. -/
structure Least (xs out : List Hy) : Prop where
  sorted : out.Pairwise fun p q => bef p q = true
  mem : ∀ p, p ∈ out ↔ MinL xs p
theorem sorted_nodup {out : List Hy} (h : out.Pairwise fun p q => bef p q = true) : out.Nodup :=
  h.imp (fun {p q} hb e => by subst e; rw [bef_irr] at hb; cases hb)
theorem Least.uniq {xs o1 o2 : List Hy} (h1 : Least xs o1) (h2 : Least xs o2) : o1 = o2 := by
  have hp : o1.Perm o2 := (List.perm_ext_iff_of_nodup (sorted_nodup h1.sorted) (sorted_nodup h2.sorted)).2 fun p => (h1.mem p).trans (h2.mem p).symm
  exact List.Perm.eq_of_pairwise (le := fun p q => bef p q = true) (fun p q _ _ a b => by rw [bef_asym a] at b; cases b) h1.sorted h2.sorted hp
theorem Least.labels {xs out : List Hy} (h : Least xs out) {p q : Hy} (hp : p ∈ out) (hq : q ∈ out) (e : q.1 = p.1) : p = q := min_uniq ((h.mem p).1 hp) ((h.mem q).1 hq) e
/-- A list in its order with each label once is its own least one. -/
theorem least_self {xs : List Hy} (hs : xs.Pairwise fun p q => bef p q = true) (hl : ∀ p ∈ xs, ∀ q ∈ xs, q.1 = p.1 → p = q) : Least xs xs :=
  ⟨hs, fun p => ⟨fun hp => ⟨hp, fun q hq e => by rw [hl p hp q hq e]; exact Int.le_refl _⟩, fun h => h.1⟩⟩
/-- The list of the first n of them. -/
def lst (n : Nat) (f : Nat → Hy) : List Hy := (List.range n).map f
theorem lst_len (n : Nat) (f : Nat → Hy) : (lst n f).length = n := by unfold lst; simp
theorem lst_succ (n : Nat) (f : Nat → Hy) : lst (n + 1) f = lst n f ++ [f n] := by unfold lst; rw [List.range_succ, List.map_append]; rfl
theorem lst_get {n : Nat} {f : Nat → Hy} {i : Nat} (h : i < n) : (lst n f)[i]? = some (f i) := by unfold lst; rw [List.getElem?_map, List.getElem?_range h]; rfl
theorem mem_lst {n : Nat} {f : Nat → Hy} {p : Hy} : p ∈ lst n f ↔ ∃ i, i < n ∧ f i = p := by unfold lst; simp
/-- The list is in order, as the document says it. -/
def HyP (f : Nat → Hy) (i : Nat) : Prop := (labB (f i).1 = true ∧ 0 ≤ (f i).2 ∧ (f i).2 ≤ 1000000) ∧ (0 < i → bef (f (i - 1)) (f i) = true) ∧ ∀ k, k < i → (f k).1 ≠ (f i).1
def HyOk (n : Nat) (f : Nat → Hy) : Prop := n ≤ 8 ∧ ∀ i, i < n → HyP f i
noncomputable def hyB (n : Nat) (f : Nat → Hy) : Bool := @decide (HyOk n f) (Classical.propDecidable _)
theorem hy_iff {n : Nat} {f : Nat → Hy} : hyB n f = true ↔ HyOk n f := by unfold hyB; exact @decide_eq_true_iff _ (Classical.propDecidable _)
theorem hy_no {n : Nat} {f : Nat → Hy} (h : ¬ HyOk n f) : hyB n f = false := by unfold hyB; exact @decide_eq_false _ (Classical.propDecidable _) h
theorem hy_ext {n : Nat} {f g : Nat → Hy} (h : ∀ i, i < n → f i = g i) : hyB n f = hyB n g := by
  have key : ∀ {f g : Nat → Hy}, (∀ i, i < n → f i = g i) → HyOk n f → HyOk n g := fun {f g} h ho => ⟨ho.1, fun i hi => by
    obtain ⟨a, b, c⟩ := ho.2 i hi
    refine ⟨by rw [← h i hi]; exact a, fun h0 => by rw [← h i hi, ← h (i - 1) (by omega)]; exact b h0, fun k hk => by rw [← h i hi, ← h k (by omega)]; exact c k hk⟩⟩
  rw [Bool.eq_iff_iff, hy_iff, hy_iff]
  exact ⟨key h, key fun i hi => (h i hi).symm⟩
theorem chain {f : Nat → Hy} {n : Nat} (h : ∀ i, i < n → 0 < i → bef (f (i - 1)) (f i) = true) : ∀ d i, i + d + 1 < n → bef (f i) (f (i + d + 1)) = true
  | 0, i, hi => h (i + 1) (by omega) (by omega)
  | d + 1, i, hi => bef_trans (chain h d i (by omega)) (h (i + (d + 1) + 1) (by omega) (by omega))
theorem lst_sorted {f : Nat → Hy} {n : Nat} (h : ∀ i, i < n → 0 < i → bef (f (i - 1)) (f i) = true) : (lst n f).Pairwise fun p q => bef p q = true := by
  unfold lst
  rw [List.pairwise_map]
  rw [List.pairwise_iff_getElem]
  intro i j hi hj hij
  simp only [List.length_range] at hi hj
  simp only [List.getElem_range]
  have := chain h (j - i - 1) i (by omega)
  rwa [show i + (j - i - 1) + 1 = j by omega] at this
theorem ok_least {n : Nat} {f : Nat → Hy} (h : HyOk n f) : Least (lst n f) (lst n f) := by
  refine least_self (lst_sorted fun i hi h0 => (h.2 i hi).2.1 h0) ?_
  intro p hp q hq e
  obtain ⟨i, hi, rfl⟩ := mem_lst.1 hp
  obtain ⟨j, hj, rfl⟩ := mem_lst.1 hq
  rcases Nat.lt_trichotomy i j with c | rfl | c
  · exact absurd e.symm ((h.2 j hj).2.2 i c)
  · rfl
  · exact absurd e ((h.2 i hi).2.2 j c)
theorem least_ok {n : Nat} {f : Nat → Hy} (hn : n ≤ 8) (hl : ∀ i, i < n → labB (f i).1 = true ∧ 0 ≤ (f i).2 ∧ (f i).2 ≤ 1000000) (h : Least (lst n f) (lst n f)) : HyOk n f := by
  have hp : ∀ i j, i < j → j < n → bef (f i) (f j) = true := fun i j hij hj => by
    have := h.sorted
    unfold lst at this
    rw [List.pairwise_map, List.pairwise_iff_getElem] at this
    have := this i j (by simp; omega) (by simp; omega) hij
    simpa using this
  refine ⟨hn, fun i hi => ⟨hl i hi, fun h0 => hp _ _ (by omega) hi, fun k hk e => ?_⟩⟩
  have := h.labels (mem_lst.2 ⟨i, hi, rfl⟩) (mem_lst.2 ⟨k, by omega, rfl⟩) e
  have hb := hp k i hk hi
  rw [this, bef_irr] at hb
  cases hb
/-- Whether the list is its own least one tells whether it is in order. -/
theorem valid_iff {n : Nat} {f : Nat → Hy} {out : List Hy} (hn : n ≤ 8) (hl : ∀ i, i < n → labB (f i).1 = true ∧ 0 ≤ (f i).2 ∧ (f i).2 ≤ 1000000) (h : Least (lst n f) out) : hyB n f = true ↔ lst n f = out := by
  rw [hy_iff]
  exact ⟨fun ho => (ok_least ho).uniq h, fun e => least_ok hn hl (by rw [← e] at h; exact h)⟩
/-! ### a map from labels to hypotheses -/
/-- How an element of the map reads. -/
def hyList : List Value → Option (DataW Unit × List MemPlace)
  | [.string s, .int .i64 c] => some (.agg [.lit (.string s.data.toList), .lit (.int .i64 c)], [])
  | _ => none
def hyElem : Value → Option (DataW Unit × List MemPlace)
  | .agg cs => hyList cs.toList
  | _ => none
def encD (p : Hy) : DataW Unit := .agg [.lit (.string p.1.data.toList), .lit (.int .i64 p.2)]
def mkV (p : Hy) : Value := .agg #[.string p.1, .int .i64 p.2]
theorem hyElem_mk (p : Hy) : hyElem (mkV p) = some (encD p, []) := rfl
theorem hyElem_inv {v : Value} {z : DataW Unit × List MemPlace} (h : hyElem v = some z) : ∃ p : Hy, v = mkV p ∧ z = (encD p, []) := by
  cases v with
  | agg cs =>
    replace h : hyList cs.toList = some z := h
    unfold hyList at h
    split at h
    · rename_i s c e
      cases h
      refine ⟨(s, c), ?_, rfl⟩
      unfold mkV
      rw [← Array.toArray_toList (xs := cs), e]
    · cases h
  | _ => cases h
theorem encD_inj {p q : Hy} (h : encD p = encD q) : p = q := by
  unfold encD at h
  injection h with h
  injection h with h1 h2
  injection h2 with h2
  injection h1 with h1
  injection h1 with h1
  injection h2 with h2
  injection h2 with _ h2
  refine Prod.ext ?_ h2
  cases hp : p.1
  cases hq : q.1
  rw [hp, hq] at h1
  simp at h1
  rw [h1]
/-- The key of a label. -/
def kyL (s : ByteArray) : Lit := .string s.data.toList
theorem kyL_inj {s t : ByteArray} (h : kyL s = kyL t) : s = t := by
  unfold kyL at h
  injection h with h
  cases s; cases t
  simp at h
  rw [h]
/-- The map holds the least hypothesis of each label. -/
structure MapIs (D : DataW Unit) (xs : List Hy) : Prop where
  isMap : Go.Maps.IsMap D
  has : ∀ s, Go.Maps.has D (kyL s) = true ↔ ∃ p ∈ xs, p.1 = s
  at_ : ∀ p, MinL xs p → ∀ zd, D.atKey (kyL p.1) zd = encD p
theorem MapIs.start : MapIs (.map []) [] := ⟨Go.Maps.isMap_empty, fun s => by simp [Go.Maps.has], fun p h => absurd h.1 (by simp)⟩
theorem MapIs.none {D : DataW Unit} {xs : List Hy} (h : MapIs D xs) {s : ByteArray} (hs : ∀ p ∈ xs, p.1 ≠ s) (zd : DataW Unit) : D.atKey (kyL s) zd = zd := by
  refine Go.Maps.atKey_of_not_has ?_ zd
  cases hh : Go.Maps.has D (kyL s) with
  | false => rfl
  | true =>
    obtain ⟨p, hp, e⟩ := (h.has s).1 hh
    exact absurd e (hs p hp)
/-- Of the hypotheses of one label one has the least cost. -/
theorem min_exists (s : ByteArray) : ∀ xs : List Hy, (∃ p ∈ xs, p.1 = s) → ∃ p, MinL xs p ∧ p.1 = s
  | [], h => by obtain ⟨p, hp, _⟩ := h; simp at hp
  | x :: xs, h => by
    by_cases hx : ∃ p ∈ xs, p.1 = s
    · obtain ⟨p, hp, e⟩ := min_exists s xs hx
      by_cases hc : x.1 = s ∧ x.2 < p.2
      · refine ⟨x, ⟨by simp, fun q hq eq => ?_⟩, hc.1⟩
        rcases List.mem_cons.1 hq with rfl | hq
        · exact Int.le_refl _
        · have := hp.2 q hq (by rw [eq, hc.1, e])
          omega
      · refine ⟨p, ⟨by simp [hp.1], fun q hq eq => ?_⟩, e⟩
        rcases List.mem_cons.1 hq with rfl | hq
        · have : ¬ q.2 < p.2 := fun h => hc ⟨by rw [eq, e], h⟩
          omega
        · exact hp.2 q hq eq
    · obtain ⟨p, hp, e⟩ := h
      rcases List.mem_cons.1 hp with rfl | hp
      · refine ⟨p, ⟨by simp, fun q hq eq => ?_⟩, e⟩
        rcases List.mem_cons.1 hq with rfl | hq
        · exact Int.le_refl _
        · exact absurd ⟨q, hq, by rw [eq, e]⟩ hx
      · exact absurd ⟨p, hp, e⟩ hx
theorem min_app {xs : List Hy} {h p : Hy} (hp : MinL (xs ++ [h]) p) (hne : p.1 ≠ h.1) : MinL xs p := by
  refine ⟨?_, fun q hq e => hp.2 q (by simp [hq]) e⟩
  rcases List.mem_append.1 hp.1 with g | g
  · exact g
  · simp at g; subst g; exact absurd rfl hne
theorem min_app_same {xs : List Hy} {h p : Hy} (hp : MinL (xs ++ [h]) p) (he : p.1 = h.1) : p = h ∧ (∀ q ∈ xs, q.1 = h.1 → h.2 ≤ q.2) ∨ MinL xs p ∧ p.2 ≤ h.2 := by
  have h1 := hp.2 h (by simp) he.symm
  rcases List.mem_append.1 hp.1 with g | g
  · exact .inr ⟨⟨g, fun q hq e => hp.2 q (by simp [hq]) e⟩, h1⟩
  · simp at g
    subst g
    exact .inl ⟨rfl, fun q hq e => hp.2 q (by simp [hq]) e⟩
theorem has_app {xs : List Hy} {h : Hy} {s : ByteArray} : (∃ p ∈ xs ++ [h], p.1 = s) ↔ ((∃ p ∈ xs, p.1 = s) ∨ h.1 = s) := by
  constructor
  · rintro ⟨p, hp, e⟩
    rcases List.mem_append.1 hp with g | g
    · exact .inl ⟨p, g, e⟩
    · simp at g; subst g; exact .inr e
  · rintro (⟨p, hp, e⟩ | e)
    · exact ⟨p, by simp [hp], e⟩
    · exact ⟨h, by simp, e⟩
theorem isKey (s : ByteArray) : WideAt.IsKeyLit (kyL s) := by unfold kyL; first | trivial | simp [WideAt.IsKeyLit]
/-- The hypothesis is stored. -/
theorem MapIs.put {D : DataW Unit} {xs : List Hy} (h : MapIs D xs) (x : Hy) (hx : ∀ p ∈ xs, p.1 = x.1 → x.2 < p.2) : MapIs (D.put (kyL x.1) (encD x)) (xs ++ [x]) := by
  refine ⟨h.isMap.put _ _, fun s => ?_, fun p hp zd => ?_⟩
  · rw [has_app]
    by_cases e : x.1 = s
    · subst e
      simp [Go.Maps.has_put_same h.isMap (isKey _)]
    · rw [Go.Maps.has_put_other (fun e' => e (kyL_inj e').symm), h.has s]
      simp [e]
  · by_cases e : p.1 = x.1
    · rcases min_app_same hp e with ⟨rfl, -⟩ | ⟨hm, hc⟩
      · exact Go.Maps.atKey_put_same h.isMap (isKey _) _ _
      · have := hx p hm.1 e
        omega
    · rw [Go.Maps.atKey_put_other (fun e' => e (kyL_inj e'))]
      exact h.at_ p (min_app hp e) zd
/-- The hypothesis is not stored: there is a better one. -/
theorem MapIs.keep {D : DataW Unit} {xs : List Hy} (h : MapIs D xs) (x p : Hy) (hp : MinL xs p) (e : p.1 = x.1) (hc : p.2 ≤ x.2) : MapIs D (xs ++ [x]) := by
  refine ⟨h.isMap, fun s => ?_, fun q hq zd => ?_⟩
  · rw [has_app, h.has s]
    constructor
    · exact .inl
    · rintro (g | g)
      · exact g
      · exact ⟨p, hp.1, by rw [e, g]⟩
  · by_cases e' : q.1 = x.1
    · rcases min_app_same hq e' with ⟨rfl, h2⟩ | ⟨hm, -⟩
      · have := h2 p hp.1 e
        obtain rfl : p = q := Prod.ext e (by omega)
        exact h.at_ p hp zd
      · exact h.at_ q hm zd
    · exact h.at_ q (min_app hq e') zd
/-- What has come out of the map: each hypothesis under its own label, no label twice. -/
structure Came (D : DataW Unit) (left : Lit → Bool) (hs : List Hy) : Prop where
  coll : Collected D left (hs.map fun p => p.1.data.toList)
  at_ : ∀ p ∈ hs, ∀ zd, D.atKey (kyL p.1) zd = encD p
theorem Came.start (D : DataW Unit) : Came D (Go.Maps.has D) [] := ⟨Collected.start D, fun p hp => by simp at hp⟩
/-- When all have come, they are the least ones. -/
theorem Came.all {D : DataW Unit} {left : Lit → Bool} {hs xs : List Hy} (h : Came D left hs) (hl : ∀ kl, left kl = false) (hm : MapIs D xs) : hs.Nodup ∧ ∀ p, p ∈ hs ↔ MinL xs p := by
  have hnd := h.coll.1
  refine ⟨(List.pairwise_map.1 hnd).imp (fun {p q} hne e => hne (by rw [e])), fun p => ⟨fun hp => ?_, fun hp => ?_⟩⟩
  · have h1 : Go.Maps.has D (kyL p.1) = true := ((h.coll.2 p.1.data.toList).1 (List.mem_map.2 ⟨p, hp, rfl⟩)).1
    obtain ⟨q, hq, e⟩ := min_exists p.1 xs ((hm.has p.1).1 h1)
    have h2 := hm.at_ q hq .nil
    rw [e, h.at_ p hp .nil] at h2
    rw [encD_inj h2]
    exact hq
  · have h1 : p.1.data.toList ∈ hs.map fun p => p.1.data.toList := (h.coll.2 _).2 ⟨(hm.has p.1).2 ⟨p, hp.1, rfl⟩, hl _⟩
    obtain ⟨q, hq, e⟩ := List.mem_map.1 h1
    have e2 : q.1 = p.1 := kyL_inj (by unfold kyL; rw [e])
    have h2 := h.at_ q hq .nil
    rw [e2, hm.at_ p hp .nil] at h2
    rw [encD_inj h2]
    exact hq
/-- One more has come. -/
theorem Came.step {D : DataW Unit} {left : Lit → Bool} {hs xs : List Hy} (h : Came D left hs) (hm : MapIs D xs) {s : List UInt8} {q : Hy} (hlk : left (.string s) = true) (hat : ∀ zd, D.atKey (.string s) zd = encD q) : Came D (fun z => left z && !z.sameKey (.string s)) (hs ++ [q]) ∧ q.1.data.toList = s := by
  have hh : Go.Maps.has D (kyL ⟨s.toArray⟩) = true := by
    have := Go.Maps.has_true_of_atKey hat
    unfold kyL
    simpa using this
  obtain ⟨r, hr, e⟩ := min_exists ⟨s.toArray⟩ xs ((hm.has _).1 hh)
  have h2 := hm.at_ r hr .nil
  rw [e] at h2
  have h3 : D.atKey (kyL ⟨s.toArray⟩) .nil = encD q := by
    have := hat .nil
    unfold kyL
    simpa using this
  rw [h3] at h2
  have e2 := encD_inj h2
  subst e2
  have e3 : q.1.data.toList = s := by rw [e]
  refine ⟨⟨?_, fun p hp zd => ?_⟩, e3⟩
  · rw [List.map_append]
    have := h.coll.step hlk hat
    simpa [e3] using this
  · rcases List.mem_append.1 hp with g | g
    · exact h.at_ p g zd
    · simp at g
      subst g
      have := hat zd
      rw [← e3] at this
      exact this
end Go.Proofs.Ytofgdgdmmlgmnaa.hyp
