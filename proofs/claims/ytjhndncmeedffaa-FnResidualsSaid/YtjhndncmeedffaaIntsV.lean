/-
  Proved: a list of numbers, read as a datum or owned, as its numbers.
  Conditions: none.
-/
import Derived.Test.YtjhndncmeedffaaRng
import Derived.Test.YtjhndncmeedffaaRec
namespace Go.Proofs.Ytjhndncmeedffaa.ints
open Go.ChangeShapes Go.WideShapes Go.ChangeAt Go.RowKit Go.Joins
open Go.Proofs.Ytjhndncmeedffaa.core Go.Proofs.Ytjhndncmeedffaa.rows Go.Proofs.Ytjhndncmeedffaa.numS
set_option linter.unusedVariables false
set_option linter.unusedSimpArgs false

def nInt : Dat → Int | .int z => z | _ => 0
def nLen (g : Nat → Dat) : Nat := match g 0 with | .sl n _ _ => n | _ => 0
def nFun (g : Nat → Dat) : Nat → Int := match g 0 with | .sl _ _ f => fun i => nInt (f i 0) | _ => fun _ => 0
/-- What a list of numbers is where it reads as g. -/
theorem ints_view {W : World} {us : Nat → Value} {g : Nat → Dat} (hr : ReadsRec W 1 us g) (ht : tyrInt64S g) : ∃ A c, us 0 = .slice A (nLen g) c ∧ nLen g ≤ maxLen ∧ IntsAt W A (nLen g) (nFun g) := by
  obtain ⟨n, f, hg, hf⟩ := ht
  have h0 := hr 0 (by omega)
  rw [hg] at h0
  obtain ⟨A, c, hv, hn, hR⟩ := h0.sl_inv
  have e1 : nLen g = n := by unfold nLen; rw [hg]
  have e2 : nFun g = fun i => nInt (f i 0) := by unfold nFun; rw [hg]
  rw [e1, e2]
  refine ⟨A, c, hv, hn, fun i hi => ?_⟩
  obtain ⟨b, o, hA, hlt, hj⟩ := hR i hi
  obtain ⟨u, hu, hru⟩ := hj 0 (by omega)
  obtain ⟨z, hz⟩ := hf i hi
  rw [hz] at hru
  obtain ⟨rfl, hin⟩ := hru.int_inv
  refine ⟨b, o, hA, hlt, ?_, ?_⟩
  · simpa [nInt, hz] using hu
  · show inI64 (nInt (f i 0))
    rw [hz]; exact hin
/-- A datum of numbers. -/
def datInts (n : Nat) (f : Nat → Int) : Nat → Dat := fun _ => .sl n 1 fun i _ => .int (f i)
theorem datInts_ty (n : Nat) (f : Nat → Int) : tyrInt64S (datInts n f) := ⟨n, _, rfl, fun i _ => ⟨f i, rfl⟩⟩
theorem datInts_cnt (n : Nat) (f : Nat → Int) : cntRec 1 (datInts n f) = n := by
  have h : ∀ m : Nat, sumTo (fun i => sumTo (fun _ => cnt (.int (f i))) 1) m = m := fun m => by
    induction m with
    | zero => rfl
    | succ m ih => simp only [sumTo, cnt] at *; omega
  have := h n
  simp only [cntRec, sumTo, cntS, datInts, cnt] at *
  omega
theorem datInts_cast {n : Nat} {f g : Nat → Int} (h : ∀ i, i < n → f i = g i) {W : World} {v : Value} {F : Nat → Prop} (ho : Own W v (.sl n 1 fun i _ => .int (f i)) F) : Own W v (.sl n 1 fun i _ => .int (g i)) F :=
  ho.cast fun i j hi hj => by rw [h i hi]
/-- A list of numbers grown by append owns its memory. -/
theorem own_ints {w : World} {base n : Nat} {v : Value} {l : List Int} (h : w.ownsRow base 2 1 v n (l.map (Value.int .i64))) (hl : ∀ x ∈ l, inI64 x) :
    Own w v (.sl n 1 fun i _ => .int (l[i]?.getD 0)) (iv base w.heap.size) := by
  obtain ⟨hn, h⟩ := h
  rcases h with ⟨rfl, rfl⟩ | ⟨g, cap, cur, rfl, h1, h2, h3, h4, h5, h6⟩
  · exact .nil _ _ _ _ _
  · have hlt := (Array.getElem?_eq_some_iff.1 h2).1
    have hn' : l.length = n := by simpa using hn
    refine .sl g n cap 1 2 _ (fun i _ => .int .i64 (l[i]?.getD 0)) (fun _ _ _ => False) cur _ h2 ⟨h1, hlt⟩ (Nat.le_trans h3 h4) ?_ ?_ (fun _ _ _ _ _ hx => hx.elim) (fun _ _ _ _ _ _ _ _ _ hx => hx.elim)
    · intro i j hi hj
      obtain rfl : j = 0 := by omega
      have hi' : i < l.length := by omega
      have e : (l.map (Value.int .i64))[i]? = some (.int .i64 (l[i]?.getD 0)) := by simp [hi']
      rw [← h6, List.getElem?_take, if_pos (by omega)] at e
      simpa using e
    · intro i j hi hj
      have hi' : i < l.length := by omega
      refine .int _ _ (hl _ ?_)
      rw [List.getElem?_eq_getElem hi', Option.getD_some]
      exact List.getElem_mem hi'
theorem ownRec_one {w : World} {v : Value} {g : Nat → Dat} {lo hi : Nat} (h : Own w v (g 0) (iv lo hi)) (hhi : hi ≤ w.heap.size) : OwnRec w 1 (fun _ => v) g (iv lo hi) :=
  ⟨fun _ => iv lo hi, fun j hj => by obtain rfl : j = 0 := by omega
                                     exact h, fun _ x _ hx => ⟨hx, Nat.lt_of_lt_of_le hx.2 hhi⟩, fun i j x hi hj _ _ => by omega⟩
/-- The numbers of f before n, as a list. -/
def lst (f : Nat → Int) : Nat → List Int
  | 0 => []
  | n + 1 => lst f n ++ [f n]
theorem lst_length (f : Nat → Int) : ∀ n, (lst f n).length = n
  | 0 => rfl
  | n + 1 => by simp [lst, lst_length f n]
theorem lst_get (f : Nat → Int) : ∀ n i, i < n → (lst f n)[i]?.getD 0 = f i
  | 0, i, h => absurd h (by omega)
  | n + 1, i, h => by
    simp only [lst]
    by_cases e : i < n
    · rw [List.getElem?_append_left (by rw [lst_length]; exact e)]
      exact lst_get f n i e
    · obtain rfl : i = n := by omega
      rw [List.getElem?_append_right (by rw [lst_length]; exact Nat.le_refl _), lst_length]
      simp
theorem lst_mem {f : Nat → Int} {P : Int → Prop} : ∀ n, (∀ i, i < n → P (f i)) → ∀ x ∈ lst f n, P x
  | 0, _, x, h => by simp [lst] at h
  | n + 1, h, x, hx => by
    simp only [lst, List.mem_append, List.mem_singleton] at hx
    rcases hx with hx | rfl
    · exact lst_mem n (fun i hi => h i (by omega)) x hx
    · exact h n (by omega)
theorem lst_congr {f g : Nat → Int} : ∀ n, (∀ i, i < n → f i = g i) → lst f n = lst g n
  | 0, _ => rfl
  | n + 1, h => by simp only [lst]; rw [lst_congr n (fun i hi => h i (by omega)), h n (by omega)]
/-- The row's cells, while it grows. -/
theorem row_ints {w : World} {base n : Nat} {g c : Nat} {f : Nat → Int} (h : w.ownsRow base 2 1 (.slice (some ⟨g, 0, none⟩) n c) n ((lst f n).map (Value.int .i64))) (hf : ∀ i, i < n → inI64 (f i)) (hn : 0 < n) : IntsAt w (some ⟨g, 0, none⟩) n f := fun i hi => by
  have hc := h.cells (g := g) rfl i (.int .i64 (f i)) (by
    have := lst_get f n i hi
    rw [List.getElem?_map]
    rw [List.getElem?_eq_getElem (by rw [lst_length]; exact hi)] at this ⊢
    simp at this ⊢
    exact this)
  rw [add_at] at hc
  obtain ⟨_, cur, hb⟩ := ownsRow_block h (g := g) rfl
  exact ⟨g, 0, rfl, (Array.getElem?_eq_some_iff.1 hb).1, by rw [Nat.zero_add]; exact hc, hf i hi⟩
theorem own_lst {w : World} {base n : Nat} {v : Value} {f : Nat → Int} (h : w.ownsRow base 2 1 v n ((lst f n).map (Value.int .i64))) (hf : ∀ i, i < n → inI64 (f i)) : Own w v (datInts n f 0) (iv base w.heap.size) :=
  (own_ints h (lst_mem n hf)).cast fun i j hi hj => by rw [lst_get f n i hi]
end Go.Proofs.Ytjhndncmeedffaa.ints
