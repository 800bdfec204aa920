/-
  Proved: what the document's function that builds an envelope returns.
  Conditions: the list is a sequence, the number of elements and the band are those of sequences.
-/
import Derived.Test.YtghaddpicedenaaEnvS
import Derived.Test.YtghaddpicedenaaTabD
namespace Go.Proofs.Ytghaddpicedenaa.env
open Go.ChangeShapes Go.WideShapes Go.ChangeAt Go.RowKit Go.Joins
open Go.Proofs.Ytghaddpicedenaa.core Go.Proofs.Ytghaddpicedenaa.rown Go.Proofs.Ytghaddpicedenaa.stk Go.Proofs.Ytghaddpicedenaa.boxed Go.Proofs.Ytghaddpicedenaa.ft Go.Proofs.Ytghaddpicedenaa.seq Go.Proofs.Ytghaddpicedenaa.tab
set_option linter.unusedVariables false
set_option linter.unusedSimpArgs false
/-- The numbers of an envelope: least and greatest X, least and greatest Y. -/
def envF (fb : Nat → P3) (m : Nat) (band : Int) : Nat → Nat → Int
  | 0, i => wLo (fun j => vOf false (fb j)) m ((i : Int) - band) ((i : Int) + band)
  | 1, i => wHi (fun j => vOf false (fb j)) m ((i : Int) - band) ((i : Int) + band)
  | 2, i => wLo (fun j => vOf true (fb j)) m ((i : Int) - band) ((i : Int) + band)
  | _, i => wHi (fun j => vOf true (fb j)) m ((i : Int) - band) ((i : Int) + band)
/-- Four rows of numbers, each in memory of its own. -/
structure Four (w : World) (base : Nat) (cnt : Nat → Nat) (s : Nat → Value) (F : Nat → Nat → Int) : Prop where
  own : ∀ k, k < 4 → w.ownsRow base 2 1 (s k) (cnt k) (rws (one (F k)) (cnt k))
  apart : ∀ j k g, j < 4 → k < 4 → j ≠ k → (s j).ownBlock = some g → (s k).ownBlock ≠ some g
def upd {T : Type} (f : Nat → T) (k : Nat) (v : T) : Nat → T := fun j => if j = k then v else f j
theorem Four.push {w w' : World} {base : Nat} {cnt : Nat → Nat} {s : Nat → Value} {F : Nat → Nat → Int} {o : Obj} {k g cap : Nat} {x : Int} (h : Four w base cnt s F) (hk : k < 4) (hx : F k (cnt k) = x)
    (hown : w'.ownsRow base 2 1 (.slice (some ⟨g, 0, none⟩) (cnt k + 1) cap) (cnt k + 1) (rws (one (F k)) (cnt k) ++ [.int .i64 x])) (hgr : (w.alloc o).grownBy w' (s k).ownBlock) (hat : (s k).ownBlock = some g ∨ g = w.heap.size + 1) :
    Four w' base (upd cnt k (cnt k + 1)) (upd s k (.slice (some ⟨g, 0, none⟩) (cnt k + 1) cap)) F := by
  have hb : ∀ j b, j < 4 → (s j).ownBlock = some b → b < w.heap.size := fun j b hj he => by
    obtain ⟨_, cur, hc⟩ := rown.ownsRow_block (h.own j hj) he
    exact (Array.getElem?_eq_some_iff.1 hc).1
  have hg : ∀ j b, j < 4 → j ≠ k → (s j).ownBlock = some b → b ≠ g := fun j b hj hjk he e => by
    subst e
    rcases hat with h' | h'
    · exact h.apart j k b hj hk hjk he h'
    · have := hb j b hj he; omega
  refine ⟨fun j hj => ?_, fun i j b hi hj hij he he2 => ?_⟩
  · unfold upd
    by_cases e : j = k
    · subst e
      rw [if_pos rfl, if_pos rfl, rws_succ]
      unfold one
      rw [hx]
      exact hown
    · rw [if_neg e, if_neg e]
      refine ownsRow_same (h.own j hj) fun b hbb => ?_
      have hlt := hb j b hj hbb
      rw [hgr.block b (by simp; omega) (fun e2 => h.apart j k b hj hk e hbb e2.symm), Below.heap_alloc _ _ _ (by omega)]
  · unfold upd at he he2
    by_cases e1 : i = k
    · rw [if_pos e1] at he
      by_cases e2 : j = k
      · omega
      · rw [if_neg e2] at he2
        have eg : g = b := by simpa [Value.ownBlock] using he
        exact hg j b hj e2 he2 eg.symm
    · rw [if_neg e1] at he
      by_cases e2 : j = k
      · rw [if_pos e2] at he2
        have eg : g = b := by simpa [Value.ownBlock] using he2
        exact hg i b hi e1 he eg.symm
      · rw [if_neg e2] at he2
        exact h.apart i j b hi hj hij he he2
theorem Four.set {w : World} {base : Nat} {cnt : Nat → Nat} {s : Nat → Value} {F : Nat → Nat → Int} {E i : Nat} {v : Value} (h : Four w base cnt s F) (hE : E < base) : Four (w.setCell ⟨E, i, none⟩ v) base cnt s F :=
  ⟨fun k hk => ownsRow_same (h.own k hk) fun b hb => by
    have := (rown.ownsRow_block (h.own k hk) hb).1
    exact Below.heap_setCell _ _ _ _ (by simp; omega), h.apart⟩
theorem Four.kept {w w' : World} {base : Nat} {cnt : Nat → Nat} {s : Nat → Value} {F : Nat → Nat → Int} (h : Four w base cnt s F) (hb : Below w.heap.size w w') : Four w' base cnt s F :=
  ⟨fun k hk => rown.ownsRow_kept (h.own k hk) hb, h.apart⟩
theorem Four.low {w : World} {base base' : Nat} {cnt : Nat → Nat} {s : Nat → Value} {F : Nat → Nat → Int} (h : Four w base cnt s F) (hb : base' ≤ base) : Four w base' cnt s F :=
  ⟨fun k hk => row_low (h.own k hk) hb, h.apart⟩
theorem four0 (w : World) (base : Nat) (F : Nat → Nat → Int) : Four w base (fun _ => 0) (fun _ => .slice none 0 0) F :=
  ⟨fun k hk => World.ownsRow_nil _ _ _ _, fun j k g hj hk hjk he => by simp [Value.ownBlock] at he⟩
theorem one_new {w : World} {a : Value} {E H : Nat} (h : w.heap.size = H) : ∀ j u, [a][j]? = some u → (w.alloc (.cells #[a] E)).cell? ((⟨H, 0, none⟩ : Addr).add j) = some u := by
  subst h
  exact new_cells (l := [a])
theorem kept2 {w w' : World} {A : Option Addr} {n : Nat} {f : Nat → P3} (h : PtsAt w A n f) (hb : Below w.heap.size w w') : PtsAt w' A n f := h.kept hb
theorem infoN : (Try.prog.info? 2).map (fun i => (i.zero, i.size, i.bytes)) = some (some (.int .i64 0), 1, 8) := by kernel_rfl
def pick4 {T : Type} (a b c d : T) (k : Nat) : T := if k = 0 then a else if k = 1 then b else if k = 2 then c else d
end Go.Proofs.Ytghaddpicedenaa.env
