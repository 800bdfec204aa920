/-
  Proved: what both functions that add a template return where nothing is added.
  Conditions: those of each theorem.
-/
import Derived.Test.YtghaddpicedenaaRmv
namespace Go.Proofs.Ytghaddpicedenaa.gro
open Go.ChangeShapes Go.WideShapes Go.ChangeAt Go.RowKit Go.Joins
open Go.Proofs.Ytghaddpicedenaa.core Go.Proofs.Ytghaddpicedenaa.rown Go.Proofs.Ytghaddpicedenaa.stk Go.Proofs.Ytghaddpicedenaa.boxed Go.Proofs.Ytghaddpicedenaa.tmp Go.Proofs.Ytghaddpicedenaa.ft Go.Proofs.Ytghaddpicedenaa.sto Go.Proofs.Ytghaddpicedenaa.seq
set_option linter.unusedVariables false
set_option linter.unusedSimpArgs false
/-- The store, the template and the result in their boxes. -/
structure AW (w : World) (v : Value) (band : Int) (s : ByteArray) (u : Value) (W : World) : Prop where
  below : Below w.heap.size w W
  z : w.heap.size + 3 ≤ W.heap.size
  b1 : W.heap[w.heap.size]? = some (.cells #[.int .i64 band, v] 32 (0, 0))
  b2 : W.heap[w.heap.size + 1]? = some (.cells #[.string s, u] 38 (0, 0))
  b3 : W.heap[w.heap.size + 2]? = some (.cells #[.int .i64 0, .slice none 0 0] 32 (0, 0))
theorem AW.start (w : World) (v : Value) (band : Int) (s : ByteArray) (u : Value) : AW w v band s u (((w.alloc (.cells #[.int .i64 band, v] 32)).alloc (.cells #[.string s, u] 38)).alloc (.cells #[.int .i64 0, .slice none 0 0] 32)) := by
  have e : (w.alloc (.cells #[.int .i64 band, v] 32)).heap.size = w.heap.size + 1 := by simp
  have e2 : ((w.alloc (.cells #[.int .i64 band, v] 32)).alloc (.cells #[.string s, u] 38)).heap.size = w.heap.size + 2 := by simp
  refine ⟨below_alloc3 _ _ _ _, by simp, ?_, ?_, ?_⟩
  · rw [Below.heap_alloc _ _ _ (by simp; omega), Below.heap_alloc _ _ _ (by simp)]
    exact heap_alloc_new _ _
  · rw [Below.heap_alloc _ _ _ (by simp), ← e]
    exact heap_alloc_new _ _
  · rw [← e2]; exact heap_alloc_new _ _
theorem AW.far {w W V : World} {v : Value} {band : Int} {s : ByteArray} {u : Value} (h : AW w v band s u W) (hB : Below (w.heap.size + 3) W V) : AW w v band s u V :=
  ⟨h.below.trans (hB.mono (by omega)), Nat.le_trans h.z hB.size, (hB.block _ (by omega)).trans h.b1, (hB.block _ (by omega)).trans h.b2, (hB.block _ (by omega)).trans h.b3⟩
set_option maxRecDepth 100000 in
set_option maxHeartbeats 2000000 in
theorem addI_st {c cu : Nat} (band : Int) (T : Option Addr) (n : Nat) (lb : Nat → ByteArray) (ln : Nat → Nat) (lf : Nat → Nat → P3) (s : ByteArray) (U : Option Addr) (m : Nat) (f : Nat → P3) (w : World) (hl : TsL n lb ln) (hp : TsAt w T n lb ln lf) (hs : s.size ≤ 1048576) (hm : m ≤ 1048576) (hu : PtsAt w U m f) (hv : stB band n lb ln lf = false) :
    Calls Try.prog 9 #[.agg #[.int .i64 band, .slice T n c], .agg #[.string s, .slice U m cu]] w (RmNo w 1) := by
  have CS := Lib.hid (AW.start w (.slice T n c) band s (.slice U m cu))
  obtain ⟨W0, hW0⟩ : ∃ W0, ((w.alloc (.cells #[.int .i64 band, .slice T n c] 32)).alloc (.cells #[.string s, .slice U m cu] 38)).alloc (.cells #[.int .i64 0, .slice none 0 0] 32) = W0 := ⟨_, rfl⟩
  have HZ := Lib.hid (show W0.heap.size = w.heap.size + 3 by rw [← hW0]; simp)
  rw [hW0] at CS
  have x0 : W0.cell? ⟨w.heap.size, 0, none⟩ = some (.int .i64 band) := by rw [cell_of_block CS.out.b1]; rfl
  have x1 : W0.cell? ⟨w.heap.size, 1, none⟩ = some (.slice T n c) := by rw [cell_of_block CS.out.b1]; rfl
  have HV := Lib.hid (validStI (c := c) band T n lb ln lf W0 hl (hp.kept CS.out.below))
  have HU := Lib.hid hu
  rw [hv] at HV
  clear hp hu
  go_enter Try.func9, Try.ntmps9
  go_wp2_with fail
  refine HV.out.mono ?_
  rintro e w1 ⟨rfl, hb1⟩
  have CC := Lib.hid (CS.out.far (hb1.mono (by rw [HZ.out]; omega)))
  have y0 : w1.cell? ⟨w.heap.size, 0, none⟩ = some (.int .i64 band) := by rw [cell_of_block CC.out.b1]; rfl
  have y1 : w1.cell? ⟨w.heap.size, 1, none⟩ = some (.slice T n c) := by rw [cell_of_block CC.out.b1]; rfl
  have y2 : w1.cell? ⟨w.heap.size + 1, 0, none⟩ = some (.string s) := by rw [cell_of_block CC.out.b2]; rfl
  have y3 : w1.cell? ⟨w.heap.size + 1, 1, none⟩ = some (.slice U m cu) := by rw [cell_of_block CC.out.b2]; rfl
  have y4 : w1.cell? ⟨w.heap.size + 2, 0, none⟩ = some (.int .i64 0) := by rw [cell_of_block CC.out.b3]; rfl
  have y5 : w1.cell? ⟨w.heap.size + 2, 1, none⟩ = some (.slice none 0 0) := by rw [cell_of_block CC.out.b3]; rfl
  have y6 := unfrozen_of_block CC.out.b3 0
  have y7 := unfrozen_of_block CC.out.b3 1
  clear hb1 HV CS HZ x0 x1
  have BR := Lib.hid ((CC.out.below.setCell (p := ⟨w.heap.size + 2, 0, none⟩) (show w.heap.size ≤ w.heap.size + 2 by omega) (.int .i64 0)).setCell (p := ⟨w.heap.size + 2, 1, none⟩) (show w.heap.size ≤ w.heap.size + 2 by omega) (.slice none 0 0))
  go_wp2
  refine bodyPost_ret (v := .tuple #[.agg #[.int .i64 0, .slice none 0 0], .int .i64 1]) (by simp [results, Try.results9, go_sem, y4, y5]) rfl ⟨rfl, BR.out⟩
set_option maxRecDepth 100000 in
set_option maxHeartbeats 2000000 in
theorem addI_tm {c cu : Nat} (band : Int) (T : Option Addr) (n : Nat) (lb : Nat → ByteArray) (ln : Nat → Nat) (lf : Nat → Nat → P3) (s : ByteArray) (U : Option Addr) (m : Nat) (f : Nat → P3) (w : World) (hl : TsL n lb ln) (hp : TsAt w T n lb ln lf) (hs : s.size ≤ 1048576) (hm : m ≤ 1048576) (hu : PtsAt w U m f) (hv : stB band n lb ln lf = true) (ht : tmB s m f = false) :
    Calls Try.prog 9 #[.agg #[.int .i64 band, .slice T n c], .agg #[.string s, .slice U m cu]] w (RmNo w 1) := by
  have CS := Lib.hid (AW.start w (.slice T n c) band s (.slice U m cu))
  obtain ⟨W0, hW0⟩ : ∃ W0, ((w.alloc (.cells #[.int .i64 band, .slice T n c] 32)).alloc (.cells #[.string s, .slice U m cu] 38)).alloc (.cells #[.int .i64 0, .slice none 0 0] 32) = W0 := ⟨_, rfl⟩
  have HZ := Lib.hid (show W0.heap.size = w.heap.size + 3 by rw [← hW0]; simp)
  rw [hW0] at CS
  have x0 : W0.cell? ⟨w.heap.size, 0, none⟩ = some (.int .i64 band) := by rw [cell_of_block CS.out.b1]; rfl
  have x1 : W0.cell? ⟨w.heap.size, 1, none⟩ = some (.slice T n c) := by rw [cell_of_block CS.out.b1]; rfl
  have HV := Lib.hid (validStI (c := c) band T n lb ln lf W0 hl (hp.kept CS.out.below))
  have HU := Lib.hid hu
  rw [hv] at HV
  clear hp hu
  go_enter Try.func9, Try.ntmps9
  go_wp2_with fail
  refine HV.out.mono ?_
  rintro e w1 ⟨rfl, hb1⟩
  have CC := Lib.hid (CS.out.far (hb1.mono (by rw [HZ.out]; omega)))
  have y0 : w1.cell? ⟨w.heap.size, 0, none⟩ = some (.int .i64 band) := by rw [cell_of_block CC.out.b1]; rfl
  have y1 : w1.cell? ⟨w.heap.size, 1, none⟩ = some (.slice T n c) := by rw [cell_of_block CC.out.b1]; rfl
  have y2 : w1.cell? ⟨w.heap.size + 1, 0, none⟩ = some (.string s) := by rw [cell_of_block CC.out.b2]; rfl
  have y3 : w1.cell? ⟨w.heap.size + 1, 1, none⟩ = some (.slice U m cu) := by rw [cell_of_block CC.out.b2]; rfl
  have y4 : w1.cell? ⟨w.heap.size + 2, 0, none⟩ = some (.int .i64 0) := by rw [cell_of_block CC.out.b3]; rfl
  have y5 : w1.cell? ⟨w.heap.size + 2, 1, none⟩ = some (.slice none 0 0) := by rw [cell_of_block CC.out.b3]; rfl
  have y6 := unfrozen_of_block CC.out.b3 0
  have y7 := unfrozen_of_block CC.out.b3 1
  clear hb1 HV CS HZ x0 x1
  have HV2 := Lib.hid (noTemplI (c := cu) s U m f w1 hs hm (HU.out.kept CC.out.below))
  rw [ht] at HV2
  go_wp2_with fail
  refine HV2.out.mono ?_
  rintro e w2 ⟨rfl, hb2⟩
  have CD := Lib.hid (CC.out.far (hb2.mono CC.out.z))
  clear hb2 HV2 y0 y1 y2 y3 y4 y5 y6 y7
  have z0 : w2.cell? ⟨w.heap.size, 0, none⟩ = some (.int .i64 band) := by rw [cell_of_block CD.out.b1]; rfl
  have z1 : w2.cell? ⟨w.heap.size, 1, none⟩ = some (.slice T n c) := by rw [cell_of_block CD.out.b1]; rfl
  have z2 : w2.cell? ⟨w.heap.size + 1, 0, none⟩ = some (.string s) := by rw [cell_of_block CD.out.b2]; rfl
  have z3 : w2.cell? ⟨w.heap.size + 1, 1, none⟩ = some (.slice U m cu) := by rw [cell_of_block CD.out.b2]; rfl
  have z4 : w2.cell? ⟨w.heap.size + 2, 0, none⟩ = some (.int .i64 0) := by rw [cell_of_block CD.out.b3]; rfl
  have z5 : w2.cell? ⟨w.heap.size + 2, 1, none⟩ = some (.slice none 0 0) := by rw [cell_of_block CD.out.b3]; rfl
  have z6 := unfrozen_of_block CD.out.b3 0
  have z7 := unfrozen_of_block CD.out.b3 1
  have BR := Lib.hid ((CD.out.below.setCell (p := ⟨w.heap.size + 2, 0, none⟩) (show w.heap.size ≤ w.heap.size + 2 by omega) (.int .i64 0)).setCell (p := ⟨w.heap.size + 2, 1, none⟩) (show w.heap.size ≤ w.heap.size + 2 by omega) (.slice none 0 0))
  go_wp2
  refine bodyPost_ret (v := .tuple #[.agg #[.int .i64 0, .slice none 0 0], .int .i64 1]) (by simp [results, Try.results9, go_sem, z4, z5]) rfl ⟨rfl, BR.out⟩
set_option maxRecDepth 100000 in
set_option maxHeartbeats 2000000 in
theorem addI_full {c cu : Nat} (band : Int) (T : Option Addr) (n : Nat) (lb : Nat → ByteArray) (ln : Nat → Nat) (lf : Nat → Nat → P3) (s : ByteArray) (U : Option Addr) (m : Nat) (f : Nat → P3) (w : World) (hl : TsL n lb ln) (hp : TsAt w T n lb ln lf) (hs : s.size ≤ 1048576) (hm : m ≤ 1048576) (hu : PtsAt w U m f) (hv : stB band n lb ln lf = true) (ht : tmB s m f = true) (hn : 40 ≤ n) :
    Calls Try.prog 9 #[.agg #[.int .i64 band, .slice T n c], .agg #[.string s, .slice U m cu]] w (RmNo w 5) := by
  have hn2 := (st_iff.1 hv).2.1
  have hni : (40 : Int) ≤ (n : Int) := by omega
  have hnj : (n : Int) ≤ 40 := by omega
  have CS := Lib.hid (AW.start w (.slice T n c) band s (.slice U m cu))
  obtain ⟨W0, hW0⟩ : ∃ W0, ((w.alloc (.cells #[.int .i64 band, .slice T n c] 32)).alloc (.cells #[.string s, .slice U m cu] 38)).alloc (.cells #[.int .i64 0, .slice none 0 0] 32) = W0 := ⟨_, rfl⟩
  have HZ := Lib.hid (show W0.heap.size = w.heap.size + 3 by rw [← hW0]; simp)
  rw [hW0] at CS
  have x0 : W0.cell? ⟨w.heap.size, 0, none⟩ = some (.int .i64 band) := by rw [cell_of_block CS.out.b1]; rfl
  have x1 : W0.cell? ⟨w.heap.size, 1, none⟩ = some (.slice T n c) := by rw [cell_of_block CS.out.b1]; rfl
  have HV := Lib.hid (validStI (c := c) band T n lb ln lf W0 hl (hp.kept CS.out.below))
  have HU := Lib.hid hu
  rw [hv] at HV
  clear hp hu
  go_enter Try.func9, Try.ntmps9
  go_wp2_with fail
  refine HV.out.mono ?_
  rintro e w1 ⟨rfl, hb1⟩
  have CC := Lib.hid (CS.out.far (hb1.mono (by rw [HZ.out]; omega)))
  have y0 : w1.cell? ⟨w.heap.size, 0, none⟩ = some (.int .i64 band) := by rw [cell_of_block CC.out.b1]; rfl
  have y1 : w1.cell? ⟨w.heap.size, 1, none⟩ = some (.slice T n c) := by rw [cell_of_block CC.out.b1]; rfl
  have y2 : w1.cell? ⟨w.heap.size + 1, 0, none⟩ = some (.string s) := by rw [cell_of_block CC.out.b2]; rfl
  have y3 : w1.cell? ⟨w.heap.size + 1, 1, none⟩ = some (.slice U m cu) := by rw [cell_of_block CC.out.b2]; rfl
  have y4 : w1.cell? ⟨w.heap.size + 2, 0, none⟩ = some (.int .i64 0) := by rw [cell_of_block CC.out.b3]; rfl
  have y5 : w1.cell? ⟨w.heap.size + 2, 1, none⟩ = some (.slice none 0 0) := by rw [cell_of_block CC.out.b3]; rfl
  have y6 := unfrozen_of_block CC.out.b3 0
  have y7 := unfrozen_of_block CC.out.b3 1
  clear hb1 HV CS HZ x0 x1
  have HV2 := Lib.hid (noTemplI (c := cu) s U m f w1 hs hm (HU.out.kept CC.out.below))
  rw [ht] at HV2
  go_wp2_with fail
  refine HV2.out.mono ?_
  rintro e w2 ⟨rfl, hb2⟩
  have CD := Lib.hid (CC.out.far (hb2.mono CC.out.z))
  clear hb2 HV2 y0 y1 y2 y3 y4 y5 y6 y7
  have z0 : w2.cell? ⟨w.heap.size, 0, none⟩ = some (.int .i64 band) := by rw [cell_of_block CD.out.b1]; rfl
  have z1 : w2.cell? ⟨w.heap.size, 1, none⟩ = some (.slice T n c) := by rw [cell_of_block CD.out.b1]; rfl
  have z2 : w2.cell? ⟨w.heap.size + 1, 0, none⟩ = some (.string s) := by rw [cell_of_block CD.out.b2]; rfl
  have z3 : w2.cell? ⟨w.heap.size + 1, 1, none⟩ = some (.slice U m cu) := by rw [cell_of_block CD.out.b2]; rfl
  have z4 : w2.cell? ⟨w.heap.size + 2, 0, none⟩ = some (.int .i64 0) := by rw [cell_of_block CD.out.b3]; rfl
  have z5 : w2.cell? ⟨w.heap.size + 2, 1, none⟩ = some (.slice none 0 0) := by rw [cell_of_block CD.out.b3]; rfl
  have z6 := unfrozen_of_block CD.out.b3 0
  have z7 := unfrozen_of_block CD.out.b3 1
  have BR := Lib.hid ((CD.out.below.setCell (p := ⟨w.heap.size + 2, 0, none⟩) (show w.heap.size ≤ w.heap.size + 2 by omega) (.int .i64 0)).setCell (p := ⟨w.heap.size + 2, 1, none⟩) (show w.heap.size ≤ w.heap.size + 2 by omega) (.slice none 0 0))
  go_wp2
  refine bodyPost_ret (v := .tuple #[.agg #[.int .i64 0, .slice none 0 0], .int .i64 5]) (by simp [results, Try.results9, go_sem, z4, z5]) rfl ⟨rfl, BR.out⟩
set_option maxRecDepth 100000 in
set_option maxHeartbeats 2000000 in
theorem addS_st {c cu : Nat} (band : Int) (T : Option Addr) (n : Nat) (lb : Nat → ByteArray) (ln : Nat → Nat) (lf : Nat → Nat → P3) (s : ByteArray) (U : Option Addr) (m : Nat) (f : Nat → P3) (w : World) (hl : TsL n lb ln) (hp : TsAt w T n lb ln lf) (hs : s.size ≤ 1048576) (hm : m ≤ 1048576) (hu : PtsAt w U m f) (hv : stB band n lb ln lf = false) :
    Calls Try.prog 6 #[.agg #[.int .i64 band, .slice T n c], .agg #[.string s, .slice U m cu]] w (RmNo w 1) := by
  have CS := Lib.hid (AW.start w (.slice T n c) band s (.slice U m cu))
  obtain ⟨W0, hW0⟩ : ∃ W0, ((w.alloc (.cells #[.int .i64 band, .slice T n c] 32)).alloc (.cells #[.string s, .slice U m cu] 38)).alloc (.cells #[.int .i64 0, .slice none 0 0] 32) = W0 := ⟨_, rfl⟩
  have HZ := Lib.hid (show W0.heap.size = w.heap.size + 3 by rw [← hW0]; simp)
  rw [hW0] at CS
  have x0 : W0.cell? ⟨w.heap.size, 0, none⟩ = some (.int .i64 band) := by rw [cell_of_block CS.out.b1]; rfl
  have x1 : W0.cell? ⟨w.heap.size, 1, none⟩ = some (.slice T n c) := by rw [cell_of_block CS.out.b1]; rfl
  have HV := Lib.hid (storeOkS (c := c) w.heap.size 0 band T n lb ln lf W0 (by rw [HZ.out]; omega) x0 x1 hl (hp.kept CS.out.below))
  have HU := Lib.hid hu
  rw [hv] at HV
  clear hp hu
  go_enter Try.func6, Try.ntmps6
  go_wp2_with fail
  refine HV.out.mono ?_
  rintro e w1 ⟨rfl, hb1⟩
  have CC := Lib.hid (CS.out.far (hb1.mono (by rw [HZ.out]; omega)))
  have y0 : w1.cell? ⟨w.heap.size, 0, none⟩ = some (.int .i64 band) := by rw [cell_of_block CC.out.b1]; rfl
  have y1 : w1.cell? ⟨w.heap.size, 1, none⟩ = some (.slice T n c) := by rw [cell_of_block CC.out.b1]; rfl
  have y2 : w1.cell? ⟨w.heap.size + 1, 0, none⟩ = some (.string s) := by rw [cell_of_block CC.out.b2]; rfl
  have y3 : w1.cell? ⟨w.heap.size + 1, 1, none⟩ = some (.slice U m cu) := by rw [cell_of_block CC.out.b2]; rfl
  have y4 : w1.cell? ⟨w.heap.size + 2, 0, none⟩ = some (.int .i64 0) := by rw [cell_of_block CC.out.b3]; rfl
  have y5 : w1.cell? ⟨w.heap.size + 2, 1, none⟩ = some (.slice none 0 0) := by rw [cell_of_block CC.out.b3]; rfl
  have y6 := unfrozen_of_block CC.out.b3 0
  have y7 := unfrozen_of_block CC.out.b3 1
  clear hb1 HV CS HZ x0 x1
  have BR := Lib.hid ((CC.out.below.setCell (p := ⟨w.heap.size + 2, 0, none⟩) (show w.heap.size ≤ w.heap.size + 2 by omega) (.int .i64 0)).setCell (p := ⟨w.heap.size + 2, 1, none⟩) (show w.heap.size ≤ w.heap.size + 2 by omega) (.slice none 0 0))
  go_wp2
  refine bodyPost_ret (v := .tuple #[.agg #[.int .i64 0, .slice none 0 0], .int .i64 1]) (by simp [results, Try.results6, go_sem, y4, y5]) rfl ⟨rfl, BR.out⟩
set_option maxRecDepth 100000 in
set_option maxHeartbeats 2000000 in
theorem addS_tm {c cu : Nat} (band : Int) (T : Option Addr) (n : Nat) (lb : Nat → ByteArray) (ln : Nat → Nat) (lf : Nat → Nat → P3) (s : ByteArray) (U : Option Addr) (m : Nat) (f : Nat → P3) (w : World) (hl : TsL n lb ln) (hp : TsAt w T n lb ln lf) (hs : s.size ≤ 1048576) (hm : m ≤ 1048576) (hu : PtsAt w U m f) (hv : stB band n lb ln lf = true) (ht : tmB s m f = false) :
    Calls Try.prog 6 #[.agg #[.int .i64 band, .slice T n c], .agg #[.string s, .slice U m cu]] w (RmNo w 1) := by
  have CS := Lib.hid (AW.start w (.slice T n c) band s (.slice U m cu))
  obtain ⟨W0, hW0⟩ : ∃ W0, ((w.alloc (.cells #[.int .i64 band, .slice T n c] 32)).alloc (.cells #[.string s, .slice U m cu] 38)).alloc (.cells #[.int .i64 0, .slice none 0 0] 32) = W0 := ⟨_, rfl⟩
  have HZ := Lib.hid (show W0.heap.size = w.heap.size + 3 by rw [← hW0]; simp)
  rw [hW0] at CS
  have x0 : W0.cell? ⟨w.heap.size, 0, none⟩ = some (.int .i64 band) := by rw [cell_of_block CS.out.b1]; rfl
  have x1 : W0.cell? ⟨w.heap.size, 1, none⟩ = some (.slice T n c) := by rw [cell_of_block CS.out.b1]; rfl
  have HV := Lib.hid (storeOkS (c := c) w.heap.size 0 band T n lb ln lf W0 (by rw [HZ.out]; omega) x0 x1 hl (hp.kept CS.out.below))
  have HU := Lib.hid hu
  rw [hv] at HV
  clear hp hu
  go_enter Try.func6, Try.ntmps6
  go_wp2_with fail
  refine HV.out.mono ?_
  rintro e w1 ⟨rfl, hb1⟩
  have CC := Lib.hid (CS.out.far (hb1.mono (by rw [HZ.out]; omega)))
  have y0 : w1.cell? ⟨w.heap.size, 0, none⟩ = some (.int .i64 band) := by rw [cell_of_block CC.out.b1]; rfl
  have y1 : w1.cell? ⟨w.heap.size, 1, none⟩ = some (.slice T n c) := by rw [cell_of_block CC.out.b1]; rfl
  have y2 : w1.cell? ⟨w.heap.size + 1, 0, none⟩ = some (.string s) := by rw [cell_of_block CC.out.b2]; rfl
  have y3 : w1.cell? ⟨w.heap.size + 1, 1, none⟩ = some (.slice U m cu) := by rw [cell_of_block CC.out.b2]; rfl
  have y4 : w1.cell? ⟨w.heap.size + 2, 0, none⟩ = some (.int .i64 0) := by rw [cell_of_block CC.out.b3]; rfl
  have y5 : w1.cell? ⟨w.heap.size + 2, 1, none⟩ = some (.slice none 0 0) := by rw [cell_of_block CC.out.b3]; rfl
  have y6 := unfrozen_of_block CC.out.b3 0
  have y7 := unfrozen_of_block CC.out.b3 1
  clear hb1 HV CS HZ x0 x1
  have HV2 := Lib.hid (templS (c := cu) (w.heap.size + 1) 0 s U m f w1 (by have := CC.out.z; omega) y2 y3 hs hm (HU.out.kept CC.out.below))
  rw [ht] at HV2
  go_wp2_with fail
  refine HV2.out.mono ?_
  rintro e w2 ⟨rfl, hb2⟩
  have CD := Lib.hid (CC.out.far (hb2.mono CC.out.z))
  clear hb2 HV2 y0 y1 y2 y3 y4 y5 y6 y7
  have z0 : w2.cell? ⟨w.heap.size, 0, none⟩ = some (.int .i64 band) := by rw [cell_of_block CD.out.b1]; rfl
  have z1 : w2.cell? ⟨w.heap.size, 1, none⟩ = some (.slice T n c) := by rw [cell_of_block CD.out.b1]; rfl
  have z2 : w2.cell? ⟨w.heap.size + 1, 0, none⟩ = some (.string s) := by rw [cell_of_block CD.out.b2]; rfl
  have z3 : w2.cell? ⟨w.heap.size + 1, 1, none⟩ = some (.slice U m cu) := by rw [cell_of_block CD.out.b2]; rfl
  have z4 : w2.cell? ⟨w.heap.size + 2, 0, none⟩ = some (.int .i64 0) := by rw [cell_of_block CD.out.b3]; rfl
  have z5 : w2.cell? ⟨w.heap.size + 2, 1, none⟩ = some (.slice none 0 0) := by rw [cell_of_block CD.out.b3]; rfl
  have z6 := unfrozen_of_block CD.out.b3 0
  have z7 := unfrozen_of_block CD.out.b3 1
  have BR := Lib.hid ((CD.out.below.setCell (p := ⟨w.heap.size + 2, 0, none⟩) (show w.heap.size ≤ w.heap.size + 2 by omega) (.int .i64 0)).setCell (p := ⟨w.heap.size + 2, 1, none⟩) (show w.heap.size ≤ w.heap.size + 2 by omega) (.slice none 0 0))
  go_wp2
  refine bodyPost_ret (v := .tuple #[.agg #[.int .i64 0, .slice none 0 0], .int .i64 1]) (by simp [results, Try.results6, go_sem, z4, z5]) rfl ⟨rfl, BR.out⟩
set_option maxRecDepth 100000 in
set_option maxHeartbeats 2000000 in
theorem addS_full {c cu : Nat} (band : Int) (T : Option Addr) (n : Nat) (lb : Nat → ByteArray) (ln : Nat → Nat) (lf : Nat → Nat → P3) (s : ByteArray) (U : Option Addr) (m : Nat) (f : Nat → P3) (w : World) (hl : TsL n lb ln) (hp : TsAt w T n lb ln lf) (hs : s.size ≤ 1048576) (hm : m ≤ 1048576) (hu : PtsAt w U m f) (hv : stB band n lb ln lf = true) (ht : tmB s m f = true) (hn : 40 ≤ n) :
    Calls Try.prog 6 #[.agg #[.int .i64 band, .slice T n c], .agg #[.string s, .slice U m cu]] w (RmNo w 5) := by
  have hn2 := (st_iff.1 hv).2.1
  have hni : (40 : Int) ≤ (n : Int) := by omega
  have hnj : (n : Int) ≤ 40 := by omega
  have CS := Lib.hid (AW.start w (.slice T n c) band s (.slice U m cu))
  obtain ⟨W0, hW0⟩ : ∃ W0, ((w.alloc (.cells #[.int .i64 band, .slice T n c] 32)).alloc (.cells #[.string s, .slice U m cu] 38)).alloc (.cells #[.int .i64 0, .slice none 0 0] 32) = W0 := ⟨_, rfl⟩
  have HZ := Lib.hid (show W0.heap.size = w.heap.size + 3 by rw [← hW0]; simp)
  rw [hW0] at CS
  have x0 : W0.cell? ⟨w.heap.size, 0, none⟩ = some (.int .i64 band) := by rw [cell_of_block CS.out.b1]; rfl
  have x1 : W0.cell? ⟨w.heap.size, 1, none⟩ = some (.slice T n c) := by rw [cell_of_block CS.out.b1]; rfl
  have HV := Lib.hid (storeOkS (c := c) w.heap.size 0 band T n lb ln lf W0 (by rw [HZ.out]; omega) x0 x1 hl (hp.kept CS.out.below))
  have HU := Lib.hid hu
  rw [hv] at HV
  clear hp hu
  go_enter Try.func6, Try.ntmps6
  go_wp2_with fail
  refine HV.out.mono ?_
  rintro e w1 ⟨rfl, hb1⟩
  have CC := Lib.hid (CS.out.far (hb1.mono (by rw [HZ.out]; omega)))
  have y0 : w1.cell? ⟨w.heap.size, 0, none⟩ = some (.int .i64 band) := by rw [cell_of_block CC.out.b1]; rfl
  have y1 : w1.cell? ⟨w.heap.size, 1, none⟩ = some (.slice T n c) := by rw [cell_of_block CC.out.b1]; rfl
  have y2 : w1.cell? ⟨w.heap.size + 1, 0, none⟩ = some (.string s) := by rw [cell_of_block CC.out.b2]; rfl
  have y3 : w1.cell? ⟨w.heap.size + 1, 1, none⟩ = some (.slice U m cu) := by rw [cell_of_block CC.out.b2]; rfl
  have y4 : w1.cell? ⟨w.heap.size + 2, 0, none⟩ = some (.int .i64 0) := by rw [cell_of_block CC.out.b3]; rfl
  have y5 : w1.cell? ⟨w.heap.size + 2, 1, none⟩ = some (.slice none 0 0) := by rw [cell_of_block CC.out.b3]; rfl
  have y6 := unfrozen_of_block CC.out.b3 0
  have y7 := unfrozen_of_block CC.out.b3 1
  clear hb1 HV CS HZ x0 x1
  have HV2 := Lib.hid (templS (c := cu) (w.heap.size + 1) 0 s U m f w1 (by have := CC.out.z; omega) y2 y3 hs hm (HU.out.kept CC.out.below))
  rw [ht] at HV2
  go_wp2_with fail
  refine HV2.out.mono ?_
  rintro e w2 ⟨rfl, hb2⟩
  have CD := Lib.hid (CC.out.far (hb2.mono CC.out.z))
  clear hb2 HV2 y0 y1 y2 y3 y4 y5 y6 y7
  have z0 : w2.cell? ⟨w.heap.size, 0, none⟩ = some (.int .i64 band) := by rw [cell_of_block CD.out.b1]; rfl
  have z1 : w2.cell? ⟨w.heap.size, 1, none⟩ = some (.slice T n c) := by rw [cell_of_block CD.out.b1]; rfl
  have z2 : w2.cell? ⟨w.heap.size + 1, 0, none⟩ = some (.string s) := by rw [cell_of_block CD.out.b2]; rfl
  have z3 : w2.cell? ⟨w.heap.size + 1, 1, none⟩ = some (.slice U m cu) := by rw [cell_of_block CD.out.b2]; rfl
  have z4 : w2.cell? ⟨w.heap.size + 2, 0, none⟩ = some (.int .i64 0) := by rw [cell_of_block CD.out.b3]; rfl
  have z5 : w2.cell? ⟨w.heap.size + 2, 1, none⟩ = some (.slice none 0 0) := by rw [cell_of_block CD.out.b3]; rfl
  have z6 := unfrozen_of_block CD.out.b3 0
  have z7 := unfrozen_of_block CD.out.b3 1
  have BR := Lib.hid ((CD.out.below.setCell (p := ⟨w.heap.size + 2, 0, none⟩) (show w.heap.size ≤ w.heap.size + 2 by omega) (.int .i64 0)).setCell (p := ⟨w.heap.size + 2, 1, none⟩) (show w.heap.size ≤ w.heap.size + 2 by omega) (.slice none 0 0))
  go_wp2
  refine bodyPost_ret (v := .tuple #[.agg #[.int .i64 0, .slice none 0 0], .int .i64 5]) (by simp [results, Try.results6, go_sem, z4, z5]) rfl ⟨rfl, BR.out⟩
end Go.Proofs.Ytghaddpicedenaa.gro
