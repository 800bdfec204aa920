/-
  Proved: lists of weights, and of labels, in memory of their own (plain lemmas): one row more, what they own.
  Conditions: those of each theorem.
-/
import Derived.Test.YtimkochgnjggdaaOne
namespace Go.Proofs.Ytimkochgnjggdaa.wts
open Go.ChangeShapes Go.WideShapes Go.ChangeAt Go.RowKit Go.Joins
open Go.Proofs.Ytimkochgnjggdaa.core Go.Proofs.Ytimkochgnjggdaa.rown Go.Proofs.Ytimkochgnjggdaa.stk Go.Proofs.Ytimkochgnjggdaa.boxed Go.Proofs.Ytimkochgnjggdaa.ft Go.Proofs.Ytimkochgnjggdaa.one1
set_option linter.unusedVariables false
set_option linter.unusedSimpArgs false
theorem infoL : (Try.prog.info? 24).map (fun i => (i.zero, i.size, i.bytes)) = some (some (.slice none 0 0), 1, 24) := by kernel_rfl
theorem infoS : (Try.prog.info? 9).map (fun i => (i.zero, i.size, i.bytes)) = some (some (.string ⟨#[]⟩), 1, 16) := by kernel_rfl
def srow (s : Nat → ByteArray) (i : Nat) : List Value := [.string (s i)]
theorem srow_len (s : Nat → ByteArray) : ∀ i, (srow s i).length = 1 := fun _ => rfl
def wrow (gi ln ci : Nat → Nat) (i : Nat) : List Value := [.slice (some ⟨gi i, 0, none⟩) (ln i) (ci i)]
theorem wrow_len (gi ln ci : Nat → Nat) : ∀ i, (wrow gi ln ci i).length = 1 := fun _ => rfl
/-- Rows of weights in memory of their own, from L on. -/
structure WD (W : World) (L : Nat) (D : Option Addr) (j C : Nat) (gi ln ci : Nat → Nat) (lf : Nat → Nat → Int) : Prop where
  row : W.ownsRow L 24 1 (.slice D j C) j (rws (wrow gi ln ci) j)
  el : ∀ i, i < j → W.ownsRow L 2 1 (.slice (some ⟨gi i, 0, none⟩) (ln i) (ci i)) (ln i) (rws (one (lf i)) (ln i))
  inj : ∀ i i', i < j → i' < j → gi i = gi i' → i = i'
section
variable {W W' : World} {L j C : Nat} {D : Option Addr} {s : Nat → ByteArray} {gi ln ci : Nat → Nat} {lf : Nat → Nat → Int}
theorem WD.nil (W : World) (L : Nat) (gi ln ci : Nat → Nat) (lf : Nat → Nat → Int) : WD W L none 0 0 gi ln ci lf := ⟨World.ownsRow_nil _ _ _ _, fun i hi => absurd hi (by omega), fun i _ hi => absurd hi (by omega)⟩
theorem WD.kept (h : WD W L D j C gi ln ci lf) (hb : Below W.heap.size W W') : WD W' L D j C gi ln ci lf := ⟨rown.ownsRow_kept h.row hb, fun i hi => rown.ownsRow_kept (h.el i hi) hb, h.inj⟩
theorem WD.far (h : WD W L D j C gi ln ci lf) {b q : Nat} (hb : b < L) (v : Value) : WD (W.setCell ⟨b, q, none⟩ v) L D j C gi ln ci lf :=
  ⟨ownsRow_setCell_below h.row hb v, fun i hi => ownsRow_setCell_below (h.el i hi) hb v, h.inj⟩
theorem WD.lt (h : WD W L D j C gi ln ci lf) {i : Nat} (hi : i < j) : L ≤ gi i ∧ gi i < W.heap.size := by
  obtain ⟨h1, cur, hc⟩ := rown.ownsRow_block (h.el i hi) (g := gi i) rfl
  exact ⟨h1, block_size hc⟩
theorem WD.low (h : WD W L D j C gi ln ci lf) {L' : Nat} (hl : L' ≤ L) : WD W L' D j C gi ln ci lf := ⟨row_low h.row hl, fun i hi => row_low (h.el i hi) hl, h.inj⟩
theorem rws_cong {r r' : Nat → List Value} : ∀ n, (∀ i, i < n → r i = r' i) → rws r n = rws r' n
  | 0, _ => rfl
  | n + 1, h => by rw [rws_succ, rws_succ, rws_cong n fun i hi => h i (by omega), h n (by omega)]
/-- One row more. -/
theorem WD.push {o : Obj} {g c Cb gb : Nat} (h : WD W L D j C gi ln ci lf) (hb : W.ownsRow L 2 1 (.slice (some ⟨gb, 0, none⟩) (ln j) Cb) (ln j) (rws (one (lf j)) (ln j))) (hnew : ∀ i, i < j → gi i ≠ gb)
    (hgr : (W.alloc o).grownBy W' (Value.slice D j C).ownBlock) (hown : W'.ownsRow L 24 1 (.slice (some ⟨g, 0, none⟩) (j + 1) c) (j + 1) (rws (wrow gi ln ci) j ++ [.slice (some ⟨gb, 0, none⟩) (ln j) Cb])) :
    WD W' L (some ⟨g, 0, none⟩) (j + 1) c (fun i => if i = j then gb else gi i) ln (fun i => if i = j then Cb else ci i) lf := by
  have key : ∀ {v : Value} {m : Nat} {xs : List Value}, W.ownsRow L 2 1 v m xs → W'.ownsRow L 2 1 v m xs := fun hr => ownsRow_same hr fun g' hg => by
    obtain ⟨_, cur, hc⟩ := rown.ownsRow_block hr hg
    rw [hc]
    exact grown_block h.row hgr hc (by decide)
  refine ⟨?_, fun i hi => ?_, fun i i' hi hi' e => ?_⟩
  · have e : rws (wrow (fun i => if i = j then gb else gi i) ln (fun i => if i = j then Cb else ci i)) (j + 1) = rws (wrow gi ln ci) j ++ [.slice (some ⟨gb, 0, none⟩) (ln j) Cb] := by
      rw [rws_succ]
      congr 1
      · refine rws_cong j fun i hi => ?_
        unfold wrow
        have : ¬ i = j := by omega
        simp only [if_neg this]
      · unfold wrow; simp
    rw [e]
    exact hown
  · by_cases c : i = j
    · simp only [if_pos c]; rw [c]; exact key hb
    · simp only [if_neg c]; exact key (h.el i (by omega))
  · by_cases c : i = j <;> by_cases c' : i' = j
    · omega
    · simp only [if_pos c, if_neg c'] at e
      exact absurd e.symm (hnew i' (by omega))
    · simp only [if_neg c, if_pos c'] at e
      exact absurd e (hnew i (by omega))
    · simp only [if_neg c, if_neg c'] at e
      exact h.inj i i' (by omega) (by omega) e
/-- The datum of rows of weights. -/
def wdat (ln : Nat → Nat) (lf : Nat → Nat → Int) (i q : Nat) : Dat := .sl (ln i) 1 fun a _ => .int (lf i a)
theorem own_nums {base n E g c : Nat} {f : Nat → Int} (h : W.ownsRow base E 1 (.slice (some ⟨g, 0, none⟩) n c) n (rws (one f) n)) (hf : ∀ a, a < n → inI64 (f a)) :
    Own W (.slice (some ⟨g, 0, none⟩) n c) (.sl n 1 fun a _ => .int (f a)) (fun x => x = g) := by
  obtain ⟨hn, h⟩ := h
  rcases h with ⟨e, -⟩ | ⟨g', cap, cur, e, h1, h2, h3, h4, h5, h6⟩
  · cases e
  · injection e with e1 e2 e3
    injection e1 with e1
    injection e1 with e1 e1'
    subst e1 e3
    refine .sl g n c 1 E _ (fun a _ => .int .i64 (f a)) (fun _ _ _ => False) cur _ h2 rfl ⟨Nat.le_trans h3 h4, h3⟩ ?_ ?_ (fun _ _ _ _ _ hx => hx.elim) (fun _ _ _ _ _ _ _ _ _ hx => hx.elim)
    · intro i j hi hj
      have e := rws_get (one_len f) i j hj n hi
      have hr : (one f i)[j]? = some (.int .i64 (f i)) := one_get f i j hj
      rw [hr, ← h6, List.getElem?_take, if_pos (by omega)] at e
      simpa using e
    · intro i j hi hj
      exact .int _ _ (hf i hi)
theorem own_strs {base n E : Nat} {v : Value} {s : Nat → ByteArray} (h : W.ownsRow base E 1 v n (rws (srow s) n)) (hs : ∀ a, a < n → (s a).size ≤ maxLen) :
    Own W v (.sl n 1 fun a _ => .str (s a)) (iv base W.heap.size) := by
  obtain ⟨hn, h⟩ := h
  rcases h with ⟨e, h0⟩ | ⟨g, cap, cur, e, h1, h2, h3, h4, h5, h6⟩
  · subst h0
    rw [e]
    exact .nil _ _ _ _ _
  · rw [e]
    refine .sl g n cap 1 E _ (fun a _ => .string (s a)) (fun _ _ _ => False) cur _ h2 ⟨h1, block_size h2⟩ ⟨Nat.le_trans h3 h4, h3⟩ ?_ ?_ (fun _ _ _ _ _ hx => hx.elim) (fun _ _ _ _ _ _ _ _ _ hx => hx.elim)
    · intro i j hi hj
      have e := rws_get (srow_len s) i j hj n hi
      obtain rfl : j = 0 := by omega
      have hr : (srow s i)[0]? = some (.string (s i)) := rfl
      rw [hr, ← h6, List.getElem?_take, if_pos (by omega)] at e
      simpa using e
    · intro i j hi hj
      exact .str _ _ (hs i hi)
theorem WD.own (h : WD W L D j C gi ln ci lf) (hf : ∀ i a, i < j → a < ln i → inI64 (lf i a)) :
    Own W (.slice D j C) (.sl j 1 (wdat ln lf)) (iv L W.heap.size) := by
  have hel := h.el
  have hlt := fun i hi => h.lt (i := i) hi
  have hinj := h.inj
  obtain ⟨hn, h⟩ := h.row
  rcases h with ⟨e, h0⟩ | ⟨g, cap, cur, e, h1, h2, h3, h4, h5, h6⟩
  · injection e with e1 e2 e3
    subst e2
    exact .nil _ _ _ _ _
  · injection e with e1 e2 e3
    subst e1 e3
    have hgz := block_size h2
    refine .sl g j C 1 24 _ (fun i q => .slice (some ⟨gi i, 0, none⟩) (ln i) (ci i)) (fun i q x => x = gi i) cur _ h2 ⟨h1, hgz⟩ ⟨Nat.le_trans h3 h4, h3⟩ ?_ ?_ ?_ ?_
    · intro i q hi hq
      have e := rws_get (wrow_len gi ln ci) i q hq j hi
      obtain rfl : q = 0 := by omega
      have hr : (wrow gi ln ci i)[0]? = some (.slice (some ⟨gi i, 0, none⟩) (ln i) (ci i)) := rfl
      rw [hr, ← h6, List.getElem?_take, if_pos (by omega)] at e
      simpa using e
    · intro i q hi hq
      exact (own_nums (hel i hi) (fun a ha => hf i a hi ha)).mono fun x hx => hx
    · rintro i q x hi hq rfl
      refine ⟨hlt i hi, fun e => ?_⟩
      obtain ⟨-, cur', hc'⟩ := rown.ownsRow_block (hel i hi) (g := gi i) rfl
      rw [e, h2] at hc'
      injection hc' with hc'
      injection hc' with _ hc' _
      exact absurd hc' (by decide)
    · rintro i q i' q' x hi hq hi' hq' e2 e4
      exact ⟨hinj i i' hi hi' (e2.symm.trans e4), by omega⟩
/-- A perceptron's datum. -/
def pdat (n m : Nat) (s : Nat → ByteArray) (ln : Nat → Nat) (lf : Nat → Nat → Int) : Nat → Dat := fun q => if q = 0 then .sl n 1 (fun a _ => .str (s a)) else .sl m 1 (wdat ln lf)
theorem pdat_ty (n m : Nat) (s : Nat → ByteArray) (ln : Nat → Nat) (lf : Nat → Nat → Int) : tyrPerceptron (pdat n m s ln lf) :=
  ⟨⟨n, _, rfl, fun i _ => ⟨_, rfl⟩⟩, ⟨m, _, rfl, fun i _ => ⟨_, _, rfl, fun a _ => ⟨_, rfl⟩⟩⟩⟩
theorem sumTo_le {g : Nat → Nat} {B : Nat} : ∀ n, (∀ i, i < n → g i ≤ B) → sumTo g n ≤ n * B
  | 0, _ => Nat.zero_le _
  | n + 1, h => by
    have := sumTo_le n fun i hi => h i (by omega)
    have := h n (by omega)
    rw [sumTo, Nat.succ_mul]
    omega
theorem pdat_cnt {n m : Nat} (s : Nat → ByteArray) {ln : Nat → Nat} (lf : Nat → Nat → Int) (hn : n ≤ 12) (hm : m ≤ 12) (hl : ∀ i, i < m → ln i ≤ 25) : cntRec 2 (pdat n m s ln lf) ≤ 100000000000 := by
  have h1 : cntS (pdat n m s ln lf 1) ≤ m * 300 := by
    show sumTo (fun i => sumTo (fun q => cnt (wdat ln lf i q)) 1) m ≤ _
    refine sumTo_le m fun i hi => ?_
    have e : sumTo (fun q => cnt (wdat ln lf i q)) 1 = 0 + sumTo (fun a => sumTo (fun b => 1) 1) (ln i) := rfl
    rw [e, sumTo_const, sumTo_const]
    have := hl i hi
    omega
  have h0 : cntS (pdat n m s ln lf 0) ≤ n * 1 := by
    show sumTo (fun i => sumTo (fun q => 1) 1) n ≤ _
    rw [sumTo_const, sumTo_const]
    omega
  have e : cntRec 2 (pdat n m s ln lf) = 0 + cntS (pdat n m s ln lf 0) + cntS (pdat n m s ln lf 1) := rfl
  rw [e]
  omega
/-- Labels and weights, apart. -/
theorem own_per {v : Value} {n B lo : Nat} (hs : Own W v (.sl n 1 fun a _ => .str (s a)) (iv lo B)) (hB : B ≤ L) (hBW : B ≤ W.heap.size) (h : Own W (.slice D j C) (.sl j 1 (wdat ln lf)) (iv L W.heap.size)) (hlo : lo ≤ L) :
    OwnRec W 2 (fun q => if q = 0 then v else .slice D j C) (pdat n j s ln lf) (iv lo W.heap.size) :=
  ⟨fun q x => if q = 0 then iv lo B x else iv L W.heap.size x, fun q hq => by
    rcases (by omega : q = 0 ∨ q = 1) with rfl | rfl
    · exact hs.mono fun x hx => hx
    · exact h.mono fun x hx => hx, fun q x hq hx => by
    rcases (by omega : q = 0 ∨ q = 1) with rfl | rfl
    · have hx : iv lo B x := hx
      unfold iv at hx ⊢
      omega
    · have hx : iv L W.heap.size x := hx
      unfold iv at hx ⊢
      omega, fun i q x hi hq h1 h2 => by
    rcases (by omega : i = 0 ∨ i = 1) with rfl | rfl <;> rcases (by omega : q = 0 ∨ q = 1) with rfl | rfl
    · rfl
    · have h1 : iv lo B x := h1
      have h2 : iv L W.heap.size x := h2
      unfold iv at h1 h2
      omega
    · have h1 : iv L W.heap.size x := h1
      have h2 : iv lo B x := h2
      unfold iv at h1 h2
      omega
    · rfl⟩
end
end Go.Proofs.Ytimkochgnjggdaa.wts
