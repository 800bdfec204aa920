/-
  Proved: what it is for a value to be read as a datum (numbers, texts, lists of rows of these), to own its memory, and to be marked; what carries over from one world to the next (plain lemmas for the exact laws).
  Conditions: none.
-/
import Derived.Test.YtofgdgdmmlgmnaaPost
import Derived.Lib.SmallJoins
import Derived.Lib.Hide
import Derived.Deep.RegionHeld
import Derived.Deep.Slices
import Derived.Laws.IdiomStrings
import Derived.BigQuiet
import Derived.Shelf.SlSortCmp.QuietGrown
namespace Go.Proofs.Ytofgdgdmmlgmnaa.core
open Go.ChangeShapes Go.WideShapes Go.ChangeAt Go.RowKit Go.Joins
set_option linter.unusedVariables false
set_option linter.unusedSimpArgs false

/-- Numbers, texts, and lists of n rows of k cells each. -/
inductive Dat where
  | int (n : Int)
  | str (s : ByteArray)
  | sl (n k : Nat) (f : Nat → Nat → Dat)

def inI64 (n : Int) : Prop := -9223372036854775808 ≤ n ∧ n ≤ 9223372036854775807

/-- The value v reads as the datum. -/
inductive Reads (w : World) : Value → Dat → Prop
  | int (n : Int) (h : inI64 n) : Reads w (.int .i64 n) (.int n)
  | str (s : ByteArray) (h : s.size ≤ maxLen) : Reads w (.string s) (.str s)
  | nil (A : Option Addr) (c k : Nat) (f : Nat → Nat → Dat) : Reads w (.slice A 0 c) (.sl 0 k f)
  | sl (b o n c k : Nat) (f : Nat → Nat → Dat) (val : Nat → Nat → Value) (hb : b < w.heap.size) (hn : n ≤ maxLen ∧ n ≤ c)
      (hc : ∀ i j, i < n → j < k → w.cell? ⟨b, o + i * k + j, none⟩ = some (val i j)) (hr : ∀ i j, i < n → j < k → Reads w (val i j) (f i j)) :
      Reads w (.slice (some ⟨b, o, none⟩) n c) (.sl n k f)

section

variable {w w' : World} {v : Value} {n k : Nat} {f f' : Nat → Nat → Dat}
theorem Reads.int_inv {z : Int} (h : Reads w v (.int z)) : v = .int .i64 z ∧ inI64 z := by cases h; exact ⟨rfl, by assumption⟩
theorem Reads.str_inv {s : ByteArray} (h : Reads w v (.str s)) : v = .string s ∧ s.size ≤ maxLen := by cases h; exact ⟨rfl, by assumption⟩
/-- The rows of a list: where they lie. -/
def RowsAt (w : World) (A : Option Addr) (n k : Nat) (f : Nat → Nat → Dat) : Prop :=
  ∀ i, i < n → ∃ b o : Nat, A = some ⟨b, o, none⟩ ∧ b < w.heap.size ∧ ∀ j, j < k → ∃ u, w.cell? ⟨b, o + i * k + j, none⟩ = some u ∧ Reads w u (f i j)
theorem Reads.sl_inv (h : Reads w v (.sl n k f)) : ∃ A c, v = .slice A n c ∧ n ≤ maxLen ∧ RowsAt w A n k f := by
  cases h with
  | nil A c => exact ⟨A, c, rfl, Nat.zero_le _, fun i hi => absurd hi (by omega)⟩
  | sl b o _ c _ _ val hb hn hc hr => exact ⟨_, c, rfl, hn.1, fun i hi => ⟨b, o, rfl, hb, fun j hj => ⟨val i j, hc i j hi hj, hr i j hi hj⟩⟩⟩
/-- A list is no longer than the room that it has. -/
theorem Reads.cap {A : Option Addr} {c : Nat} (h : Reads w (.slice A n c) (.sl n k f)) : n ≤ c := by
  cases h with
  | nil => exact Nat.zero_le _
  | sl b o _ _ _ _ val hb hn hc hr => exact hn.2
theorem Reads.mk {A : Option Addr} {c : Nat} (hn : n ≤ maxLen) (hcap : n ≤ c) (h : RowsAt w A n k f) : Reads w (.slice A n c) (.sl n k f) := by
  rcases Nat.eq_zero_or_pos n with rfl | hp
  · exact .nil _ _ _ _
  · obtain ⟨b, o, rfl, hb, _⟩ := h 0 hp
    have key : ∀ i j, i < n → j < k → ∃ u, w.cell? ⟨b, o + i * k + j, none⟩ = some u ∧ Reads w u (f i j) := fun i j hi hj => by
      obtain ⟨b', o', e, _, h'⟩ := h i hi
      cases e
      exact h' j hj
    exact .sl b o n c k f (fun i j => if h : i < n ∧ j < k then Classical.choose (key i j h.1 h.2) else .bool false) hb ⟨hn, hcap⟩
      (fun i j hi hj => by rw [dif_pos ⟨hi, hj⟩]; exact (Classical.choose_spec (key i j hi hj)).1)
      (fun i j hi hj => by rw [dif_pos ⟨hi, hj⟩]; exact (Classical.choose_spec (key i j hi hj)).2)
theorem Reads.kept {d : Dat} (h : Reads w v d) (hb : Below w.heap.size w w') : Reads w' v d := by
  induction h with
  | int n h => exact .int n h
  | str s h => exact .str s h
  | nil A c k f => exact .nil A c k f
  | sl b o n c k f val hl hn hc hr ih => exact .sl b o n c k f val (Nat.lt_of_lt_of_le hl hb.size) hn (fun i j hi hj => (hb.cell (p := ⟨b, o + i * k + j, none⟩) hl).trans (hc i j hi hj)) ih
theorem RowsAt.below {A : Option Addr} (h : RowsAt w A n k f) (hb : Below w.heap.size w w') : RowsAt w' A n k f := fun i hi => by
  obtain ⟨b, o, rfl, hl, hj⟩ := h i hi
  refine ⟨b, o, rfl, Nat.lt_of_lt_of_le hl hb.size, fun j hjk => ?_⟩
  obtain ⟨u, hu, hr⟩ := hj j hjk
  exact ⟨u, (hb.cell (p := ⟨b, o + i * k + j, none⟩) hl).trans hu, hr.kept hb⟩
theorem RowsAt.cast {A : Option Addr} (h : RowsAt w A n k f) (he : ∀ i j, i < n → j < k → f i j = f' i j) : RowsAt w A n k f' := fun i hi => by
  obtain ⟨b, o, rfl, hl, hj⟩ := h i hi
  refine ⟨b, o, rfl, hl, fun j hjk => ?_⟩
  rw [← he i j hi hjk]
  exact hj j hjk
theorem Reads.cast (h : Reads w v (.sl n k f)) (he : ∀ i j, i < n → j < k → f i j = f' i j) : Reads w v (.sl n k f') := by
  have hcp := h
  obtain ⟨A, c, rfl, hn, hr⟩ := h.sl_inv
  exact .mk hn hcp.cap (hr.cast he)
end

/-- Of what was there, at most the blocks of F have turned. -/
structure OnlyF (F : Nat → Prop) (w w' : World) : Prop where
  os : w'.os = w.os
  tape : w'.tape = w.tape
  output : w'.output = w.output
  size : w.heap.size ≤ w'.heap.size
  block : ∀ k, k < w.heap.size → ¬ F k → w'.heap[k]? = w.heap[k]?
section

variable {F F' : Nat → Prop} {w w' w2 : World}
theorem OnlyF.refl (F : Nat → Prop) (w : World) : OnlyF F w w := ⟨rfl, rfl, rfl, Nat.le_refl _, fun _ _ _ => rfl⟩
theorem OnlyF.trans (h : OnlyF F w w') (h' : OnlyF F w' w2) : OnlyF F w w2 :=
  ⟨h'.os.trans h.os, h'.tape.trans h.tape, h'.output.trans h.output, Nat.le_trans h.size h'.size, fun k hk ho => (h'.block k (Nat.lt_of_lt_of_le hk h.size) ho).trans (h.block k hk ho)⟩
theorem OnlyF.of_below (h : Below w.heap.size w w') : OnlyF F w w' := ⟨h.os, h.tape, h.output, h.size, fun k hk _ => h.block k hk⟩
theorem OnlyF.below {B : Nat} (h : OnlyF F w w') (hB : ∀ x, F x → B ≤ x) (hz : B ≤ w.heap.size) : Below B w w' := ⟨h.os, h.tape, h.output, h.size, fun k hk => h.block k (by omega) (fun hf => by have := hB k hf; omega)⟩
theorem OnlyF.mono (h : OnlyF F w w') (hs : ∀ x, F x → F' x) : OnlyF F' w w' := ⟨h.os, h.tape, h.output, h.size, fun k hk ho => h.block k hk (fun hf => ho (hs k hf))⟩
theorem OnlyF.setCell (h : OnlyF F w w') {g i : Nat} (hg : F g) (v : Value) : OnlyF F w (w'.setCell ⟨g, i, none⟩ v) :=
  ⟨h.os, h.tape, h.output, by simpa [World.setCell] using h.size, fun k hk ho => by
    rw [Below.heap_setCell _ _ _ _ (by intro e; simp at e; subst e; exact ho hg)]
    exact h.block k hk ho⟩
theorem OnlyF.drew (h : OnlyF F w w') : OnlyF F w w'.drew := ⟨h.os, h.tape, h.output, h.size, h.block⟩
theorem OnlyF.then_below (h : OnlyF F w w') (hb : Below w'.heap.size w' w2) : OnlyF F w w2 := h.trans (OnlyF.of_below hb)
theorem OnlyF.cell (h : OnlyF F w w') {p : Addr} (hp : p.block < w.heap.size) (hF : ¬ F p.block) : w'.cell? p = w.cell? p := World.cell?_of_block (h.block _ hp hF)
end

/-- The value v reads as the datum and owns all of its memory, which lies in blocks of F. -/
inductive Own (w : World) : Value → Dat → (Nat → Prop) → Prop
  | int (n : Int) (F : Nat → Prop) (h : inI64 n) : Own w (.int .i64 n) (.int n) F
  | str (s : ByteArray) (F : Nat → Prop) (h : s.size ≤ maxLen) : Own w (.string s) (.str s) F
  | nil (A : Option Addr) (c k : Nat) (f : Nat → Nat → Dat) (F : Nat → Prop) : Own w (.slice A 0 c) (.sl 0 k f) F
  | sl (G n c k E : Nat) (f : Nat → Nat → Dat) (val : Nat → Nat → Value) (fp : Nat → Nat → Nat → Prop) (cur : Array Value) (F : Nat → Prop)
      (hG : w.heap[G]? = some (.cells cur E (0, 0))) (hF : F G) (hn : n ≤ maxLen ∧ n ≤ c)
      (hc : ∀ i j, i < n → j < k → cur[i * k + j]? = some (val i j))
      (hr : ∀ i j, i < n → j < k → Own w (val i j) (f i j) (fp i j))
      (hs : ∀ i j x, i < n → j < k → fp i j x → F x ∧ x ≠ G)
      (hd : ∀ i j i' j' x, i < n → j < k → i' < n → j' < k → fp i j x → fp i' j' x → i = i' ∧ j = j') :
      Own w (.slice (some ⟨G, 0, none⟩) n c) (.sl n k f) F
section

variable {F F' : Nat → Prop} {w w' w2 : World} {v : Value} {d : Dat} {n k : Nat} {f f' : Nat → Nat → Dat}
theorem Own.mono (h : Own w v d F) (hs : ∀ x, F x → F' x) : Own w v d F' := by
  cases h with
  | int n _ h => exact .int n _ h
  | str s _ h => exact .str s _ h
  | nil A c k f => exact .nil A c k f _
  | sl G n c k E f val fp cur _ hG hF hn hc hr hs' hd => exact .sl G n c k E f val fp cur _ hG (hs _ hF) hn hc hr (fun i j x hi hj hx => ⟨hs _ (hs' i j x hi hj hx).1, (hs' i j x hi hj hx).2⟩) hd
theorem Own.reads (h : Own w v d F) : Reads w v d := by
  induction h with
  | int n _ h => exact .int n h
  | str s _ h => exact .str s h
  | nil A c k f => exact .nil A c k f
  | sl G n c k E f val fp cur _ hG hF hn hc hr hs' hd ih =>
    exact .sl G 0 n c k f val (Array.getElem?_eq_some_iff.1 hG).1 hn (fun i j hi hj => by rw [cell_of_block hG, Nat.zero_add]; exact hc i j hi hj) ih
/-- What owns its memory stays as it is while other blocks turn. -/
theorem Own.frame (h : Own w v d F) (hb : ∀ x, x < w.heap.size → F x → w'.heap[x]? = w.heap[x]?) : Own w' v d F := by
  induction h with
  | int n _ h => exact .int n _ h
  | str s _ h => exact .str s _ h
  | nil A c k f => exact .nil A c k f _
  | sl G n c k E f val fp cur _ hG hF hn hc hr hs' hd ih =>
    exact .sl G n c k E f val fp cur _ ((hb G (Array.getElem?_eq_some_iff.1 hG).1 hF).trans hG) hF hn hc (fun i j hi hj => ih i j hi hj (fun x hx hf => hb x hx (hs' i j x hi hj hf).1)) hs' hd
theorem Own.kept (h : Own w v d F) (hb : Below w.heap.size w w') : Own w' v d F := h.frame fun x hx _ => hb.block x hx
theorem Own.only (h : Own w v d F) (ho : OnlyF F' w w') (hd : ∀ x, F x → F' x → False) : Own w' v d F := h.frame fun x hx hf => ho.block x hx (fun hf' => hd x hf hf')
theorem Own.far (h : Own w v d F) {g i : Nat} (hg : ¬ F g) (u : Value) : Own (w.setCell ⟨g, i, none⟩ u) v d F := h.frame fun x hx hf => Below.heap_setCell _ _ _ _ (by intro e; simp at e; subst e; exact hg hf)
theorem Own.cast (h : Own w v (.sl n k f) F) (he : ∀ i j, i < n → j < k → f i j = f' i j) : Own w v (.sl n k f') F := by
  cases h with
  | nil A c k f => exact .nil A c k _ _
  | sl G n c k E f val fp cur _ hG hF hn hc hr hs' hd => exact .sl G n c k E _ val fp cur _ hG hF hn hc (fun i j hi hj => by rw [← he i j hi hj]; exact hr i j hi hj) hs' hd
theorem Own.int_inv {z : Int} (h : Own w v (.int z) F) : v = .int .i64 z ∧ inI64 z := h.reads.int_inv
theorem Own.str_inv {s : ByteArray} (h : Own w v (.str s) F) : v = .string s ∧ s.size ≤ maxLen := h.reads.str_inv

/-- One datum in a list is replaced by another. -/
def upd (f : Nat → Nat → Dat) (i j : Nat) (d : Dat) : Nat → Nat → Dat := fun a b => if a = i ∧ b = j then d else f a b
def Scalar : Dat → Prop | .int _ => True | .str _ => True | .sl _ _ _ => False
theorem Own.any {F F' : Nat → Prop} (h : Own w v d F) (hs : Scalar d) : Own w' v d F' := by
  cases h with
  | int n _ h => exact .int n _ h
  | str s _ h => exact .str s _ h
  | nil => exact hs.elim
  | sl => exact hs.elim

/-- The list's own block, where it has rows. -/
def OwnAt (w : World) (G n c k : Nat) (f : Nat → Nat → Dat) (F : Nat → Prop) : Prop := Own w (.slice (some ⟨G, 0, none⟩) n c) (.sl n k f) F ∧ F G ∧ ∃ cur E, w.heap[G]? = some (.cells cur E (0, 0)) ∧ (0 < k → n ≤ cur.size)
theorem Own.sl_inv (h : Own w v (.sl n k f) F) : ∃ A c, v = .slice A n c ∧ n ≤ maxLen ∧ (n = 0 ∨ ∃ G, A = some ⟨G, 0, none⟩ ∧ F G ∧ G < w.heap.size) := by
  cases h with
  | nil A c => exact ⟨A, c, rfl, Nat.zero_le _, .inl rfl⟩
  | sl G _ c _ E _ val fp cur _ hG hF hn hc hr hs hd => exact ⟨_, c, rfl, hn.1, .inr ⟨G, rfl, hF, (Array.getElem?_eq_some_iff.1 hG).1⟩⟩

/-- A place in the list: what it holds, that it may be written, and what the list becomes when another datum is written there or the datum there turns in its own blocks. -/
theorem Own.place {G c : Nat} (h : Own w (.slice (some ⟨G, 0, none⟩) n c) (.sl n k f) F) {i j : Nat} (hi : i < n) (hj : j < k) :
    ∃ u fp, w.cell? ⟨G, i * k + j, none⟩ = some u ∧ (∀ o, w.frozen? ⟨G, o, none⟩ = false) ∧ F G ∧ G < w.heap.size ∧ Own w u (f i j) fp ∧ (∀ x, fp x → F x ∧ x ≠ G) ∧
      (∀ v' d', Scalar d' → Own w v' d' F → Own (w.setCell ⟨G, i * k + j, none⟩ v') (.slice (some ⟨G, 0, none⟩) n c) (.sl n k (upd f i j d')) F) ∧
      (∀ w' d', OnlyF fp w w' → Own w' u d' fp → Own w' (.slice (some ⟨G, 0, none⟩) n c) (.sl n k (upd f i j d')) F) := by
  cases h with
  | nil => exact absurd hi (by omega)
  | sl _ _ _ _ E _ val fp cur _ hG hF hn hc hr hs hd =>
    have hlt := (Array.getElem?_eq_some_iff.1 hG).1
    have hin := (Array.getElem?_eq_some_iff.1 (hc i j hi hj)).1
    refine ⟨val i j, fp i j, by rw [cell_of_block hG]; exact hc i j hi hj, unfrozen_of_block hG, hF, hlt, hr i j hi hj, fun x hx => hs i j x hi hj hx, ?_, ?_⟩
    · intro v' d' hsc ho
      have hb := block_setCell (i := i * k + j) hG v'
      refine .sl G n c k E _ (fun a b => if a = i ∧ b = j then v' else val a b) fp _ F hb hF hn ?_ ?_ hs hd
      · intro a b ha hb'
        by_cases e : a = i ∧ b = j
        · obtain ⟨rfl, rfl⟩ := e
          simp only [and_self, if_true]
          rw [Array.getElem?_setIfInBounds_self_of_lt hin]
        · simp only [if_neg e]
          rw [Array.getElem?_setIfInBounds_ne ?_]
          · exact hc a b ha hb'
          · intro e'
            apply e
            have h1 : (i * k + j) / k = i := by rw [Nat.add_comm, Nat.add_mul_div_right _ _ (by omega), Nat.div_eq_of_lt hj]; omega
            have h2 : (a * k + b) / k = a := by rw [Nat.add_comm, Nat.add_mul_div_right _ _ (by omega), Nat.div_eq_of_lt hb']; omega
            have h3 : a = i := by rw [← h1, ← h2, e']
            subst h3
            exact ⟨rfl, by omega⟩
      · intro a b ha hb'
        by_cases e : a = i ∧ b = j
        · simp only [upd, if_pos e]
          exact ho.any hsc
        · simp only [upd, if_neg e]
          exact (hr a b ha hb').far (fun hx => (hs a b _ ha hb' hx).2 rfl) _
    · intro w' d' ho hown
      refine .sl G n c k E _ val fp cur F ((ho.block G hlt (fun hx => (hs i j G hi hj hx).2 rfl)).trans hG) hF hn hc ?_ hs hd
      intro a b ha hb'
      by_cases e : a = i ∧ b = j
      · obtain ⟨rfl, rfl⟩ := e
        simp only [upd, and_self, if_true]
        exact hown
      · simp only [upd, if_neg e]
        exact (hr a b ha hb').only ho (fun x hx hx' => e (hd a b i j x ha hb' hi hj hx hx'))
end

section

variable {F : Nat → Prop} {w : World} {n k : Nat} {f : Nat → Nat → Dat} {G c : Nat}
theorem Own.set (h : Own w (.slice (some ⟨G, 0, none⟩) n c) (.sl n k f) F) {i : Nat} (hi : i < n) (j : Nat) (hj : j < k) (a : Nat) (ha : a = i * k + j) (v' : Value) (d' : Dat) (hsc : Scalar d') (ho : Own w v' d' F) :
    Own (w.setCell ⟨G, a, none⟩ v') (.slice (some ⟨G, 0, none⟩) n c) (.sl n k (upd f i j d')) F := by
  subst ha
  obtain ⟨u, fp, _, _, _, _, _, _, hs, _⟩ := h.place hi hj
  exact hs v' d' hsc ho
theorem Own.hasG (h : Own w (.slice (some ⟨G, 0, none⟩) n c) (.sl n k f) F) {i : Nat} (hi : i < n) : F G := by
  cases h with
  | nil => exact absurd hi (by omega)
  | sl _ _ _ _ E _ val fp cur _ hG hF => exact hF
theorem Own.ltG (h : Own w (.slice (some ⟨G, 0, none⟩) n c) (.sl n k f) F) {i : Nat} (hi : i < n) : G < w.heap.size := by
  cases h with
  | nil => exact absurd hi (by omega)
  | sl _ _ _ _ E _ val fp cur _ hG hF => exact (Array.getElem?_eq_some_iff.1 hG).1
theorem Own.free (h : Own w (.slice (some ⟨G, 0, none⟩) n c) (.sl n k f) F) {i : Nat} (hi : i < n) : ∀ o, w.frozen? ⟨G, o, none⟩ = false := by
  cases h with
  | nil => exact absurd hi (by omega)
  | sl _ _ _ _ E _ val fp cur _ hG hF => exact unfrozen_of_block hG
theorem Own.cell (h : Own w (.slice (some ⟨G, 0, none⟩) n c) (.sl n k f) F) {i : Nat} (hi : i < n) (j : Nat) (hj : j < k) (a : Nat) (ha : a = i * k + j) : ∃ u, w.cell? ⟨G, a, none⟩ = some u ∧ ∃ fp, Own w u (f i j) fp := by
  subst ha
  obtain ⟨u, fp, hc, _, _, _, ho, _⟩ := h.place hi hj
  exact ⟨u, hc, fp, ho⟩
theorem Own.sub (h : Own w (.slice (some ⟨G, 0, none⟩) n c) (.sl n k f) F) {i : Nat} (hi : i < n) (j : Nat) (hj : j < k) {a : Nat} (ha : a = i * k + j) {u : Value} (hc : w.cell? ⟨G, a, none⟩ = some u) :
    ∃ fp : Nat → Prop, Own w u (f i j) fp ∧ (∀ x, fp x → F x ∧ x ≠ G) ∧ ∀ w' d', OnlyF fp w w' → Own w' u d' fp → Own w' (.slice (some ⟨G, 0, none⟩) n c) (.sl n k (upd f i j d')) F := by
  subst ha
  obtain ⟨u', fp, hc', _, _, _, ho, hfp, _, hsub⟩ := h.place hi hj
  rw [hc] at hc'
  cases hc'
  exact ⟨fp, ho, hfp, hsub⟩
end

/-- A sum over the first n numbers. -/
def sumTo (g : Nat → Nat) : Nat → Nat
  | 0 => 0
  | i + 1 => sumTo g i + g i
theorem sumTo_mono (g : Nat → Nat) {i n : Nat} (h : i ≤ n) : sumTo g i ≤ sumTo g n := by
  induction n with
  | zero => obtain rfl : i = 0 := by omega
            exact Nat.le_refl _
  | succ n ih =>
    by_cases e : i = n + 1
    · subst e; exact Nat.le_refl _
    · have := ih (by omega)
      simp only [sumTo]
      omega
theorem sumTo_lt (g : Nat → Nat) {i n : Nat} (h : i < n) : sumTo g i + g i ≤ sumTo g n := sumTo_mono g (show i + 1 ≤ n from h)
theorem sumTo_congr {g g' : Nat → Nat} {n : Nat} (h : ∀ i, i < n → g i = g' i) : sumTo g n = sumTo g' n := by
  induction n with
  | zero => rfl
  | succ n ih => simp only [sumTo]; rw [ih fun i hi => h i (by omega), h n (by omega)]
theorem sumTo_const (a n : Nat) : sumTo (fun _ => a) n = n * a := by
  induction n with
  | zero => simp [sumTo]
  | succ n ih => simp only [sumTo, ih]; rw [Nat.succ_mul]
/-- What stands before place (i, j) in rows of k. -/
def pre (g : Nat → Nat → Nat) (k i j : Nat) : Nat := sumTo (fun a => sumTo (g a) k) i + sumTo (g i) j
theorem pre_zero (g : Nat → Nat → Nat) (k : Nat) : pre g k 0 0 = 0 := rfl
theorem pre_col (g : Nat → Nat → Nat) (k i j : Nat) : pre g k i (j + 1) = pre g k i j + g i j := by simp only [pre, sumTo]; omega
theorem pre_row (g : Nat → Nat → Nat) (k i : Nat) : pre g k (i + 1) 0 = pre g k i k := by simp only [pre, sumTo]; omega
theorem pre_end (g : Nat → Nat → Nat) (k n : Nat) : pre g k n 0 = sumTo (fun a => sumTo (g a) k) n := rfl
theorem pre_le (g : Nat → Nat → Nat) {k i j n : Nat} (hi : i < n) (hj : j ≤ k) : pre g k i j ≤ sumTo (fun a => sumTo (g a) k) n := by
  have h1 := sumTo_lt (fun a => sumTo (g a) k) hi
  have h2 := sumTo_mono (g i) hj
  simp only [pre]
  omega

/-- What the laws measure, and how many marks a datum takes. -/
def cost : Dat → Nat
  | .int _ => 0
  | .str s => s.size
  | .sl n k f => n + sumTo (fun i => sumTo (fun j => cost (f i j)) k) n
def cnt : Dat → Nat
  | .int _ => 1
  | .str _ => 1
  | .sl n k f => sumTo (fun i => sumTo (fun j => cnt (f i j)) k) n
/-- The datum with its marks from K on; mT are the marks of texts. -/
def mark (mT : Nat → ByteArray) : Dat → Nat → Dat
  | .int _, K => .int (K : Int)
  | .str _, K => .str (mT K)
  | .sl n k f, K => .sl n k fun i j => mark mT (f i j) (K + pre (fun a b => cnt (f a b)) k i j)
theorem cnt_mark (mT : Nat → ByteArray) (d : Dat) : ∀ K, cnt (mark mT d K) = cnt d := by
  induction d with
  | int n => intro K; rfl
  | str s => intro K; rfl
  | sl n k f ih =>
    intro K
    simp only [mark, cnt]
    exact sumTo_congr fun i _ => sumTo_congr fun j _ => ih i j _

/-- The blocks from lo up to hi. -/
def iv (lo hi : Nat) : Nat → Prop := fun x => lo ≤ x ∧ x < hi
theorem Own.iv_mono {w : World} {v : Value} {d : Dat} {lo hi lo' hi' : Nat} (h : Own w v d (iv lo hi)) (h1 : lo' ≤ lo) (h2 : hi ≤ hi') : Own w v d (iv lo' hi') :=
  h.mono fun x hx => ⟨Nat.le_trans h1 hx.1, Nat.lt_of_lt_of_le hx.2 h2⟩

/-- A new list of n rows of k cells, filled up to place (m, j); what its places own lies below top. -/
structure Built (w : World) (n k : Nat) (f : Nat → Nat → Dat) (m j top : Nat) (w' : World) : Prop where
  below : Below w.heap.size w w'
  htop : top ≤ w'.heap.size
  ltop : w.heap.size < top
  row : ∃ (cur : Array Value) (E : Nat) (val : Nat → Nat → Value) (lo hi : Nat → Nat → Nat), w'.heap[w.heap.size]? = some (.cells cur E (0, 0)) ∧ cur.size = n * k ∧
    (∀ a b, (a < m ∧ b < k ∨ a = m ∧ b < j) → cur[a * k + b]? = some (val a b) ∧ Own w' (val a b) (f a b) (iv (lo a b) (hi a b)) ∧ w.heap.size < lo a b ∧ hi a b ≤ top) ∧
    (∀ a b a' b' x, (a < m ∧ b < k ∨ a = m ∧ b < j) → (a' < m ∧ b' < k ∨ a' = m ∧ b' < j) → iv (lo a b) (hi a b) x → iv (lo a' b') (hi a' b') x → a = a' ∧ b = b')
section

variable {w w' w2 : World} {n k m j top : Nat} {f : Nat → Nat → Dat}
theorem Built.lt (h : Built w n k f m j top w') : w.heap.size < w'.heap.size := Nat.lt_of_lt_of_le h.ltop h.htop
theorem Built.kept (h : Built w n k f m j top w') (hb : Below w'.heap.size w' w2) : Built w n k f m j top w2 := by
  obtain ⟨cur, E, val, lo, hi, hc, hs, ha, hd⟩ := h.row
  exact ⟨h.below.trans (hb.mono h.below.size), Nat.le_trans h.htop hb.size, h.ltop, cur, E, val, lo, hi, (hb.block _ h.lt).trans hc, hs, fun a b hab => ⟨(ha a b hab).1, (ha a b hab).2.1.kept hb, (ha a b hab).2.2⟩, hd⟩
theorem Built.at_ (h : Built w n k f m j top w') (i : Nat) {a b : Nat} (ha : i = a * k + b) (hi : a * k + b < n * k) : (∃ v0, w'.cell? ⟨w.heap.size, i, none⟩ = some v0) ∧ ∀ o, w'.frozen? ⟨w.heap.size, o, none⟩ = false := by
  subst ha
  obtain ⟨cur, E, val, lo, hi', hc, hs, _⟩ := h.row
  refine ⟨⟨cur[a * k + b]'(by omega), ?_⟩, unfrozen_of_block hc⟩
  rw [cell_of_block hc]; exact Array.getElem?_eq_getElem _
theorem mul_add_lt {m n j k : Nat} (hm : m < n) (hj : j < k) : m * k + j < n * k := by
  have h1 : (m + 1) * k ≤ n * k := Nat.mul_le_mul_right k hm
  rw [Nat.succ_mul] at h1
  omega
theorem place_inj {k a b i j : Nat} (hj : j < k) (hb : b < k) (e : i * k + j = a * k + b) : i = a ∧ j = b := by
  have h1 : (i * k + j) / k = i := by rw [Nat.add_comm, Nat.add_mul_div_right _ _ (by omega), Nat.div_eq_of_lt hj]; omega
  have h2 : (a * k + b) / k = a := by rw [Nat.add_comm, Nat.add_mul_div_right _ _ (by omega), Nat.div_eq_of_lt hb]; omega
  have h3 : i = a := by rw [← h1, ← h2, e]
  subst h3
  exact ⟨rfl, by omega⟩
/-- One more place is filled. -/
theorem Built.put (h : Built w n k f m j top w') (hm : m < n) (hj : j < k) (p : Nat) (hp : p = m * k + j) {u : Value} {t1 t2 : Nat} (ho : Own w' u (f m j) (iv t1 t2)) (h1 : top ≤ t1) (h2 : t1 ≤ t2) (h3 : t2 ≤ w'.heap.size) :
    Built w n k f m (j + 1) t2 (w'.setCell ⟨w.heap.size, p, none⟩ u) := by
  subst hp
  obtain ⟨cur, E, val, lo, hi, hc, hs, ha, hd⟩ := h.row
  have lt := h.ltop
  have hin : m * k + j < cur.size := by rw [hs]; exact mul_add_lt hm hj
  refine ⟨h.below.setCell (Nat.le_refl _) _, by simpa [World.setCell] using h3, by omega, _, E, fun a b => if a = m ∧ b = j then u else val a b, fun a b => if a = m ∧ b = j then t1 else lo a b, fun a b => if a = m ∧ b = j then t2 else hi a b, block_setCell hc u, by simp [hs], ?_, ?_⟩
  · intro a b hab
    by_cases e : a = m ∧ b = j
    · obtain ⟨rfl, rfl⟩ := e
      simp only [and_self, if_true]
      exact ⟨by rw [Array.getElem?_setIfInBounds_self_of_lt hin], ho.far (fun hx => by have := hx.1; omega) _, by omega, Nat.le_refl _⟩
    · simp only [if_neg e]
      have hab' : a < m ∧ b < k ∨ a = m ∧ b < j := by omega
      obtain ⟨q1, q2, q3, q4⟩ := ha a b hab'
      refine ⟨?_, q2.far (fun hx => by have := hx.1; omega) _, q3, by omega⟩
      rw [Array.getElem?_setIfInBounds_ne ?_]
      · exact q1
      · intro e'
        have := place_inj hj (show b < k by omega) e'
        exact e ⟨this.1.symm, this.2.symm⟩
  · intro a b a' b' x hab hab' hx hx'
    by_cases e : a = m ∧ b = j <;> by_cases e' : a' = m ∧ b' = j
    · exact ⟨e.1.trans e'.1.symm, e.2.trans e'.2.symm⟩
    · simp only [if_pos e, if_neg e'] at hx hx'
      have := (ha a' b' (by omega)).2.2.2
      have := hx.1
      have := hx'.2
      omega
    · simp only [if_neg e, if_pos e'] at hx hx'
      have := (ha a b (by omega)).2.2.2
      have := hx.2
      have := hx'.1
      omega
    · simp only [if_neg e, if_neg e'] at hx hx'
      exact hd a b a' b' x (by omega) (by omega) hx hx'
theorem Built.next (h : Built w n k f m k top w') : Built w n k f (m + 1) 0 top w' := by
  obtain ⟨cur, E, val, lo, hi, hc, hs, ha, hd⟩ := h.row
  exact ⟨h.below, h.htop, h.ltop, cur, E, val, lo, hi, hc, hs, fun a b hab => ha a b (by omega), fun a b a' b' x h1 h2 => hd a b a' b' x (by omega) (by omega)⟩
theorem Built.raise (h : Built w n k f m j top w') {t : Nat} (h1 : top ≤ t) (h2 : t ≤ w'.heap.size) : Built w n k f m j t w' := by
  obtain ⟨cur, E, val, lo, hi, hc, hs, ha, hd⟩ := h.row
  exact ⟨h.below, h2, Nat.lt_of_lt_of_le h.ltop h1, cur, E, val, lo, hi, hc, hs, fun a b hab => ⟨(ha a b hab).1, (ha a b hab).2.1, (ha a b hab).2.2.1, Nat.le_trans (ha a b hab).2.2.2 h1⟩, hd⟩
theorem Built.start (cur : Array Value) (E : Nat) (hs : cur.size = n * k) : Built w n k f 0 0 (w.heap.size + 1) (w.alloc (.cells cur E)) :=
  ⟨below_alloc1 _ _, by simp, by omega, cur, E, fun _ _ => .bool false, fun _ _ => 0, fun _ _ => 0, heap_alloc_new w _, hs, fun a b hab => absurd hab (by omega), fun a b _ _ _ hab => absurd hab (by omega)⟩
theorem Built.own (h : Built w n k f m 0 top w') (hm : n ≤ m) (hn : n ≤ maxLen) : Own w' (.slice (some ⟨w.heap.size, 0, none⟩) n n) (.sl n k f) (iv w.heap.size w'.heap.size) := by
  obtain ⟨cur, E, val, lo, hi, hc, hs, ha, hd⟩ := h.row
  have ht := h.htop
  exact .sl _ n n k E f val (fun a b => iv (lo a b) (hi a b)) cur _ hc ⟨Nat.le_refl _, h.lt⟩ ⟨hn, Nat.le_refl _⟩ (fun i j hi hj => (ha i j (by omega)).1) (fun i j hi hj => (ha i j (by omega)).2.1)
    (fun i j x hi' hj hx => by
      obtain ⟨_, _, q3, q4⟩ := ha i j (by omega)
      have := hx.1
      have := hx.2
      exact ⟨⟨by omega, by omega⟩, by omega⟩)
    (fun i j i' j' x h1 h2 h3 h4 => hd i j i' j' x (by omega) (by omega))
end

/-- The digits of k before out, and the mark of a text. -/
def dgt (k : Nat) (out : ByteArray) : ByteArray := if h : k = 0 then out else dgt (k / 10) (⟨#[UInt8.ofNat (48 + k % 10)]⟩ ++ out)
termination_by k
decreasing_by omega
theorem one_size (u : UInt8) : (⟨#[u]⟩ : ByteArray).size = 1 := rfl
def mt (k : Nat) : ByteArray := ⟨#[109]⟩ ++ dgt k ⟨#[]⟩
theorem dgt_size (k : Nat) : ∀ out : ByteArray, (dgt k out).size ≤ out.size + k := by
  induction k using Nat.strongRecOn with
  | ind k ih =>
    intro out
    unfold dgt
    split
    · omega
    · have := ih (k / 10) (by omega) (⟨#[UInt8.ofNat (48 + k % 10)]⟩ ++ out)
      rw [ByteArray.size_append, one_size] at this
      omega
theorem mt_len {k : Nat} (h : k ≤ 1000000000000) : (mt k).size ≤ maxLen := by
  have h1 : (mt k).size ≤ k + 1 := by
    unfold mt
    rw [ByteArray.size_append, one_size]
    have := dgt_size k ⟨#[]⟩
    have h0 : (⟨#[]⟩ : ByteArray).size = 0 := rfl
    omega
  unfold maxLen
  omega
theorem mt_size (k : Nat) : (mt k).size ≤ k + 1 := by
  unfold mt
  rw [ByteArray.size_append, one_size]
  have := dgt_size k ⟨#[]⟩
  have h0 : (⟨#[]⟩ : ByteArray).size = 0 := rfl
  omega

/-- A world in which all that was there in w reads as it did. -/
structure Kept (w : World) where
  world : World
  below : Below w.heap.size w world
instance keptInhabited (w : World) : Inhabited (Kept w) := ⟨⟨w, Below.refl _ _⟩⟩
theorem wp_region_quiet_kept {P : Program} {id : Nat} {Q : Exit → Act → World → Prop} {a : Act} {w : World} {l : List Oper} (hm : P.follows .mixedOrders = true) (hB : Region.lexB .any l.toArray = true)
    (h : wpQuiet P l.toArray (fun w' => ∃ p : Kept w, w' = p.world) (fun a' => ∀ w', (∃ p : Kept w, w' = p.world) → Q .normal a' w') l a) : (Code.region id l.toArray true).wp P Q a w :=
  wp_region_quiet (C := fun w' => ∃ p : Kept w, w' = p.world) hm hB ⟨⟨w.drew, (Below.refl _ _).drew⟩, rfl⟩ (by simpa using h)
theorem cell_kept {w : World} {a : Addr} {v : Value} (hb : a.block < w.heap.size) (h : w.cell? a = some v) (p : Kept w) : p.world.cell? a = some v := (p.below.cell hb).trans h
theorem Calls.kept_of {P : Program} {f : FuncId} {args : Array Value} {w : World} {p : Kept w} {v : Value}
    (h : Calls P f args p.world fun e w' => e = .returned v ∧ Below p.world.heap.size p.world w') : Calls P f args p.world fun e w'' => e = .returned v ∧ ∃ q : Kept w, w'' = q.world :=
  h.mono fun _ w' ⟨he, hb⟩ => ⟨he, ⟨w', p.below.trans (hb.mono p.below.size)⟩, rfl⟩
theorem kept_lt {w : World} {g : Nat} (h : g < w.heap.size) (p : Kept w) : g < p.world.heap.size := Nat.lt_of_lt_of_le h p.below.size
end Go.Proofs.Ytofgdgdmmlgmnaa.core
