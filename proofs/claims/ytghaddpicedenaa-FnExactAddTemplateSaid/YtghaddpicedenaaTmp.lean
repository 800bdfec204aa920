/-
  Proved: lists of templates in memory of their own (plain lemmas): one template more, what they own.
  Conditions: those of each theorem.
-/
import Derived.Test.YtghaddpicedenaaStoV
import Derived.Test.YtghaddpicedenaaCln
namespace Go.Proofs.Ytghaddpicedenaa.tmp
open Go.ChangeShapes Go.WideShapes Go.ChangeAt Go.RowKit Go.Joins
open Go.Proofs.Ytghaddpicedenaa.core Go.Proofs.Ytghaddpicedenaa.rown Go.Proofs.Ytghaddpicedenaa.stk Go.Proofs.Ytghaddpicedenaa.boxed Go.Proofs.Ytghaddpicedenaa.ft Go.Proofs.Ytghaddpicedenaa.seq Go.Proofs.Ytghaddpicedenaa.lab Go.Proofs.Ytghaddpicedenaa.sto Go.Proofs.Ytghaddpicedenaa.cln
set_option linter.unusedVariables false
set_option linter.unusedSimpArgs false
theorem infoT : (Try.prog.info? 38).map (fun i => (i.zero, i.size, i.bytes)) = some (some (.agg #[.string ⟨#[]⟩, .slice none 0 0]), 2, 40) := by kernel_rfl
def trow (lb : Nat → ByteArray) (gi ln ci : Nat → Nat) (i : Nat) : List Value := [.string (lb i), .slice (some ⟨gi i, 0, none⟩) (ln i) (ci i)]
theorem trow_len (lb : Nat → ByteArray) (gi ln ci : Nat → Nat) : ∀ i, (trow lb gi ln ci i).length = 2 := fun _ => rfl
/-- Templates in memory of their own, from L on. -/
structure TD (W : World) (L : Nat) (D : Option Addr) (j C : Nat) (lb : Nat → ByteArray) (gi ln ci : Nat → Nat) (lf : Nat → Nat → P3) : Prop where
  row : W.ownsRow L 38 2 (.slice D j C) j (rws (trow lb gi ln ci) j)
  el : ∀ i, i < j → W.ownsRow L 66 3 (.slice (some ⟨gi i, 0, none⟩) (ln i) (ci i)) (ln i) (rws (row3 (lf i)) (ln i))
  inj : ∀ i i', i < j → i' < j → gi i = gi i' → i = i'
section

variable {W W' : World} {L j C : Nat} {D : Option Addr} {lb : Nat → ByteArray} {gi ln ci : Nat → Nat} {lf : Nat → Nat → P3}
theorem TD.nil (W : World) (L : Nat) (lb : Nat → ByteArray) (gi ln ci : Nat → Nat) (lf : Nat → Nat → P3) : TD W L none 0 0 lb gi ln ci lf := ⟨World.ownsRow_nil _ _ _ _, fun i hi => absurd hi (by omega), fun i _ hi => absurd hi (by omega)⟩
theorem TD.kept (h : TD W L D j C lb gi ln ci lf) (hb : Below W.heap.size W W') : TD W' L D j C lb gi ln ci lf := ⟨rown.ownsRow_kept h.row hb, fun i hi => rown.ownsRow_kept (h.el i hi) hb, h.inj⟩
theorem TD.set (h : TD W L D j C lb gi ln ci lf) {b q : Nat} (hb : b < L) (v : Value) : TD (W.setCell ⟨b, q, none⟩ v) L D j C lb gi ln ci lf :=
  ⟨ownsRow_setCell_below h.row hb v, fun i hi => ownsRow_setCell_below (h.el i hi) hb v, h.inj⟩
theorem TD.lt (h : TD W L D j C lb gi ln ci lf) {i : Nat} (hi : i < j) : L ≤ gi i ∧ gi i < W.heap.size := by
  obtain ⟨h1, cur, hc⟩ := rown.ownsRow_block (h.el i hi) (g := gi i) rfl
  exact ⟨h1, block_size hc⟩
/-- One template more. -/
theorem TD.push {o : Obj} {g c Cb gb : Nat} (h : TD W L D j C lb gi ln ci lf) (hb : W.ownsRow L 66 3 (.slice (some ⟨gb, 0, none⟩) (ln j) Cb) (ln j) (rws (row3 (lf j)) (ln j))) (hnew : ∀ i, i < j → gi i ≠ gb)
    (hgr : (W.alloc o).grownBy W' (Value.slice D j C).ownBlock) (hown : W'.ownsRow L 38 2 (.slice (some ⟨g, 0, none⟩) (j + 1) c) (j + 1) (rws (trow lb gi ln ci) j ++ [.string (lb j), .slice (some ⟨gb, 0, none⟩) (ln j) Cb])) :
    TD W' L (some ⟨g, 0, none⟩) (j + 1) c lb (fun i => if i = j then gb else gi i) ln (fun i => if i = j then Cb else ci i) lf := by
  have key : ∀ {v : Value} {m : Nat} {xs : List Value}, W.ownsRow L 66 3 v m xs → W'.ownsRow L 66 3 v m xs := fun hr => ownsRow_same hr fun g' hg => by
    obtain ⟨_, cur, hc⟩ := rown.ownsRow_block hr hg
    rw [hc]
    exact grown_block h.row hgr hc (by decide)
  refine ⟨?_, fun i hi => ?_, fun i i' hi hi' e => ?_⟩
  · have e : rws (trow lb (fun i => if i = j then gb else gi i) ln (fun i => if i = j then Cb else ci i)) (j + 1) = rws (trow lb gi ln ci) j ++ [.string (lb j), .slice (some ⟨gb, 0, none⟩) (ln j) Cb] := by
      rw [rws_succ]
      congr 1
      · refine rws_congr j fun i hi => ?_
        unfold trow
        have : ¬ i = j := by omega
        simp only [if_neg this]
      · unfold trow; simp
    rw [e]
    exact hown
  · by_cases c : i = j
    · simp only [if_pos c]; rw [c]; exact key hb
    · simp only [if_neg c]; exact key (h.el i (by omega))
  · by_cases c : i = j <;> by_cases c' : i' = j
    · omega
    · simp only [if_pos c, if_neg c'] at e
      exact absurd e.symm (hnew i' (by omega))
    · simp only [if_neg c, if_pos c'] at e
      exact absurd e (hnew i (by omega))
    · simp only [if_neg c, if_neg c'] at e
      exact h.inj i i' (by omega) (by omega) e
def f3 (p : P3) (b : Nat) : Int := if b = 0 then p.1 else if b = 1 then p.2.1 else p.2.2
/-- The datum of a list of templates. -/
def tdat (lb : Nat → ByteArray) (ln : Nat → Nat) (lf : Nat → Nat → P3) (i q : Nat) : Dat := if q = 0 then .str (lb i) else .sl (ln i) 3 fun a b => .int (f3 (lf i a) b)
theorem own_feats {base n E g c : Nat} {f : Nat → P3} (h : W.ownsRow base E 3 (.slice (some ⟨g, 0, none⟩) n c) n (rws (row3 f) n)) (hf : ∀ a b, a < n → b < 3 → inI64 (f3 (f a) b)) :
    Own W (.slice (some ⟨g, 0, none⟩) n c) (.sl n 3 fun a b => .int (f3 (f a) b)) (fun x => x = g) := by
  obtain ⟨hn, h⟩ := h
  rcases h with ⟨e, -⟩ | ⟨g', cap, cur, e, h1, h2, h3, h4, h5, h6⟩
  · cases e
  · injection e with e1 e2 e3
    injection e1 with e1
    injection e1 with e1 e1'
    subst e1 e3
    refine .sl g n c 3 E _ (fun a b => .int .i64 (f3 (f a) b)) (fun _ _ _ => False) cur _ h2 rfl ⟨Nat.le_trans h3 h4, h3⟩ ?_ ?_ (fun _ _ _ _ _ hx => hx.elim) (fun _ _ _ _ _ _ _ _ _ hx => hx.elim)
    · intro i j hi hj
      have e := rws_get (row3_len f) i j hj n hi
      have hr : (row3 f i)[j]? = some (.int .i64 (f3 (f i) j)) := by
        rcases (by omega : j = 0 ∨ j = 1 ∨ j = 2) with rfl | rfl | rfl <;> rfl
      rw [hr, ← h6, List.getElem?_take, if_pos (by omega)] at e
      simpa using e
    · intro i j hi hj
      exact .int _ _ (hf i j hi hj)
theorem TD.own (h : TD W L D j C lb gi ln ci lf) (hs : ∀ i, i < j → (lb i).size ≤ maxLen) (hf : ∀ i a b, i < j → a < ln i → b < 3 → inI64 (f3 (lf i a) b)) :
    Own W (.slice D j C) (.sl j 2 (tdat lb ln lf)) (iv L W.heap.size) := by
  have hel := h.el
  have hlt := fun i hi => h.lt (i := i) hi
  have hinj := h.inj
  obtain ⟨hn, h⟩ := h.row
  rcases h with ⟨e, h0⟩ | ⟨g, cap, cur, e, h1, h2, h3, h4, h5, h6⟩
  · injection e with e1 e2 e3
    subst e2
    exact .nil _ _ _ _ _
  · injection e with e1 e2 e3
    subst e1 e3
    have hgz := block_size h2
    refine .sl g j C 2 38 _ (fun i q => if q = 0 then .string (lb i) else .slice (some ⟨gi i, 0, none⟩) (ln i) (ci i)) (fun i q x => q = 1 ∧ x = gi i) cur _ h2 ⟨h1, hgz⟩ ⟨Nat.le_trans h3 h4, h3⟩ ?_ ?_ ?_ ?_
    · intro i q hi hq
      have e := rws_get (trow_len lb gi ln ci) i q hq j hi
      have hr : (trow lb gi ln ci i)[q]? = some (if q = 0 then .string (lb i) else .slice (some ⟨gi i, 0, none⟩) (ln i) (ci i)) := by
        rcases (by omega : q = 0 ∨ q = 1) with rfl | rfl <;> rfl
      rw [hr, ← h6, List.getElem?_take, if_pos (by omega)] at e
      simpa using e
    · intro i q hi hq
      rcases (by omega : q = 0 ∨ q = 1) with rfl | rfl
      · exact .str _ _ (hs i hi)
      · exact (own_feats (hel i hi) (fun a b ha hb => hf i a b hi ha hb)).mono fun x hx => ⟨rfl, hx⟩
    · rintro i q x hi hq ⟨-, rfl⟩
      refine ⟨hlt i hi, fun e => ?_⟩
      obtain ⟨-, cur', hc'⟩ := rown.ownsRow_block (hel i hi) (g := gi i) rfl
      rw [e, h2] at hc'
      injection hc' with hc'
      injection hc' with _ hc' _
      exact absurd hc' (by decide)
    · rintro i q i' q' x hi hq hi' hq' ⟨e1, e2⟩ ⟨e3, e4⟩
      exact ⟨hinj i i' hi hi' (e2.symm.trans e4), by omega⟩
/-- The datum of a store. -/
def sdat (band : Int) (j : Nat) (lb : Nat → ByteArray) (ln : Nat → Nat) (lf : Nat → Nat → P3) : Nat → Dat := fun q => if q = 0 then .int band else .sl j 2 (tdat lb ln lf)
theorem sdat_ty (band : Int) (j : Nat) (lb : Nat → ByteArray) (ln : Nat → Nat) (lf : Nat → Nat → P3) : tyrStore (sdat band j lb ln lf) :=
  ⟨⟨band, rfl⟩, ⟨j, _, rfl, fun i _ => ⟨⟨_, rfl⟩, ⟨_, _, rfl, fun a _ => ⟨⟨_, rfl⟩, ⟨_, rfl⟩, ⟨_, rfl⟩⟩⟩⟩⟩⟩
theorem sumTo_le {g : Nat → Nat} {B : Nat} : ∀ n, (∀ i, i < n → g i ≤ B) → sumTo g n ≤ n * B
  | 0, _ => Nat.zero_le _
  | n + 1, h => by
    have := sumTo_le n fun i hi => h i (by omega)
    have := h n (by omega)
    rw [sumTo, Nat.succ_mul]
    omega
theorem sdat_cnt (band : Int) {j : Nat} (lb : Nat → ByteArray) {ln : Nat → Nat} (lf : Nat → Nat → P3) (hj : j ≤ 41) (hl : ∀ i, i < j → ln i ≤ 72) : cntRec 2 (sdat band j lb ln lf) ≤ 100000000000 := by
  have h1 : cntS (sdat band j lb ln lf 1) ≤ j * 300 := by
    show sumTo (fun i => sumTo (fun q => cnt (tdat lb ln lf i q)) 2) j ≤ _
    refine sumTo_le j fun i hi => ?_
    have e : sumTo (fun q => cnt (tdat lb ln lf i q)) 2 = 0 + 1 + sumTo (fun a => sumTo (fun b => 1) 3) (ln i) := rfl
    rw [e, sumTo_const, sumTo_const]
    have := hl i hi
    omega
  have h0 : cntS (sdat band j lb ln lf 0) = 0 := rfl
  have e : cntRec 2 (sdat band j lb ln lf) = 0 + cntS (sdat band j lb ln lf 0) + cntS (sdat band j lb ln lf 1) := rfl
  rw [e, h0]
  omega
theorem TD.store (h : TD W L D j C lb gi ln ci lf) {band : Int} (hb : inI64 band) (hs : ∀ i, i < j → (lb i).size ≤ maxLen) (hf : ∀ i a b, i < j → a < ln i → b < 3 → inI64 (f3 (lf i a) b)) {lo : Nat} (hlo : lo ≤ L) :
    OwnRec W 2 (fun q => if q = 0 then .int .i64 band else .slice D j C) (sdat band j lb ln lf) (iv lo W.heap.size) :=
  ⟨fun q x => q = 1 ∧ iv L W.heap.size x, fun q hq => by
    rcases (by omega : q = 0 ∨ q = 1) with rfl | rfl
    · exact .int _ _ hb
    · exact (h.own hs hf).mono fun x hx => ⟨rfl, hx⟩, fun q x hq hx => ⟨⟨Nat.le_trans hlo hx.2.1, hx.2.2⟩, hx.2.2⟩, fun i q x hi hq h1 h2 => by have := h1.1; have := h2.1; omega⟩
end

end Go.Proofs.Ytghaddpicedenaa.tmp
