/-
  Proved: the library's contract on sorting by a function holds at this seat's translation.
  Conditions: none.
-/
import Derived.Shelf.SlSortCmp.NoneTotal
import Derived.Test.YtofgdgdmmlgmnaaProg
namespace Go.Proofs.Ytofgdgdmmlgmnaa.lay
open Go.Shelf Go.Proofs
set_option maxRecDepth 100000
def laySf_ren : Go.Shelf.Ren := ⟨fun | 0 => 0 | 1 => 1 | 2 => 2 | 6 => 80 | 14 => 104 | 15 => 105 | 20 => 115 | 21 => 116 | 22 => 117 | 23 => 118 | 24 => 119 | 25 => 120 | 26 => 121 | 27 => 122 | 28 => 123 | 29 => 124 | 46 => 130 | 47 => 131 | 48 => 132 | 49 => 133 | 50 => 134 | 57 => 143 | 60 => 165 | 61 => 166 | 62 => 167 | 63 => 168 | 64 => 169 | 65 => 170 | 66 => 171 | 67 => 172 | 68 => 173 | 69 => 174 | 70 => 175 | 71 => 176 | 72 => 177 | 73 => 178 | 74 => 179 | 75 => 183 | n => n, fun | 0 => 0 | 1 => 1 | 2 => 2 | 3 => 3 | 4 => 4 | 5 => 5 | 6 => 6 | 7 => 7 | 8 => 8 | 9 => 9 | 10 => 10 | 11 => 11 | 12 => 12 | 13 => 13 | 14 => 14 | 15 => 15 | 16 => 16 | 17 => 17 | 18 => 18 | 19 => 19 | 20 => 20 | 21 => 21 | 22 => 31 | 23 => 113 | 24 => 40 | 25 => 114 | 27 => 171 | 37 => 152 | 38 => 153 | 39 => 154 | 40 => 79 | 42 => 200 | 44 => 160 | 45 => 161 | 46 => 162 | 47 => 163 | 48 => 164 | 49 => 165 | 50 => 166 | 51 => 167 | 52 => 168 | 53 => 134 | 54 => 169 | 55 => 170 | 66 => 173 | 67 => 174 | 68 => 175 | 69 => 176 | 70 => 177 | 71 => 178 | 76 => 185 | 77 => 186 | 78 => 187 | 81 => 203 | 82 => 204 | 83 => 205 | 84 => 206 | 85 => 207 | 86 => 208 | 87 => 209 | 88 => 210 | 89 => 211 | 90 => 212 | 91 => 213 | 92 => 214 | 93 => 215 | 94 => 216 | 95 => 217 | 96 => 197 | n => n, fun n => n⟩
theorem laySf : SlLaysF0.n6 Try.prog laySf_ren := {
  mixed := by kernel_rfl
  f6 := ⟨"slices.SortFunc[[]loop.example/g00918/impl.Hyp,loop.example/g00918/impl.Hyp]", by decide, Try.func80.trans (congrArg some (by kernel_rfl))⟩
  f14 := ⟨"slices.pdqsortCmpFunc[loop.example/g00918/impl.Hyp]", by decide, Try.func104.trans (congrArg some (by kernel_rfl))⟩
  f15 := Try.func105.trans (congrArg some (by kernel_rfl))
  f20 := ⟨"slices.insertionSortCmpFunc[loop.example/g00918/impl.Hyp]", by decide, Try.func115.trans (congrArg some (by kernel_rfl))⟩
  f21 := ⟨"slices.heapSortCmpFunc[loop.example/g00918/impl.Hyp]", by decide, Try.func116.trans (congrArg some (by kernel_rfl))⟩
  f22 := ⟨"slices.breakPatternsCmpFunc[loop.example/g00918/impl.Hyp]", by decide, Try.func117.trans (congrArg some (by kernel_rfl))⟩
  f23 := ⟨"slices.choosePivotCmpFunc[loop.example/g00918/impl.Hyp]", by decide, Try.func118.trans (congrArg some (by kernel_rfl))⟩
  f24 := ⟨"slices.reverseRangeCmpFunc[loop.example/g00918/impl.Hyp]", by decide, Try.func119.trans (congrArg some (by kernel_rfl))⟩
  f25 := ⟨"slices.partialInsertionSortCmpFunc[loop.example/g00918/impl.Hyp]", by decide, Try.func120.trans (congrArg some (by kernel_rfl))⟩
  f26 := ⟨"slices.partitionEqualCmpFunc[loop.example/g00918/impl.Hyp]", by decide, Try.func121.trans (congrArg some (by kernel_rfl))⟩
  f27 := ⟨"slices.partitionCmpFunc[loop.example/g00918/impl.Hyp]", by decide, Try.func122.trans (congrArg some (by kernel_rfl))⟩
  f28 := Try.func123.trans (congrArg some (by kernel_rfl))
  f29 := Try.func124.trans (congrArg some (by kernel_rfl))
  f46 := ⟨"slices.siftDownCmpFunc[loop.example/g00918/impl.Hyp]", by decide, Try.func130.trans (congrArg some (by kernel_rfl))⟩
  f47 := Try.func131.trans (congrArg some (by kernel_rfl))
  f48 := Try.func132.trans (congrArg some (by kernel_rfl))
  f49 := ⟨"slices.medianAdjacentCmpFunc[loop.example/g00918/impl.Hyp]", by decide, Try.func133.trans (congrArg some (by kernel_rfl))⟩
  f50 := ⟨"slices.medianCmpFunc[loop.example/g00918/impl.Hyp]", by decide, Try.func134.trans (congrArg some (by kernel_rfl))⟩
  f57 := ⟨"slices.order2CmpFunc[loop.example/g00918/impl.Hyp]", by decide, Try.func143.trans (congrArg some (by kernel_rfl))⟩
  t0 := Try.underlying0
  a0 := Try.isAgg0
  z0 := Try.sizeOf0
  v0 := Try.zeroValue0
  t3 := Try.underlying3
  a3 := Try.isAgg3
  z3 := Try.sizeOf3
  v3 := Try.zeroValue3
  t4 := Try.underlying4
  a4 := Try.isAgg4
  z4 := Try.sizeOf4
  v4 := Try.zeroValue4
  t5 := Try.underlying5
  a5 := Try.isAgg5
  z5 := Try.sizeOf5
  v5 := Try.zeroValue5
  t9 := Try.underlying9
  a9 := Try.isAgg9
  z9 := Try.sizeOf9
  v9 := Try.zeroValue9
  t22 := Try.underlying31
  a22 := Try.isAgg31
  z22 := Try.sizeOf31
  v22 := Try.zeroValue31
  t25 := Try.underlying114
  a25 := Try.isAgg114
  z25 := Try.sizeOf114
  v25 := Try.zeroValue114
  t39 := Try.underlying154
  a39 := Try.isAgg154
  z39 := Try.sizeOf154
  v39 := Try.zeroValue154
  t45 := Try.underlying161
  a45 := Try.isAgg161
  z45 := Try.sizeOf161
  v45 := Try.zeroValue161
  t46 := Try.underlying162
  a46 := Try.isAgg162
  z46 := Try.sizeOf162
  v46 := Try.zeroValue162
  t50 := Try.underlying166
  a50 := Try.isAgg166
  z50 := Try.sizeOf166
  v50 := Try.zeroValue166
  t53 := Try.underlying134
  a53 := Try.isAgg134
  z53 := Try.sizeOf134
  v53 := Try.zeroValue134
  t55 := Try.underlying170
  a55 := Try.isAgg170
  z55 := Try.sizeOf170
  v55 := Try.zeroValue170
  t66 := Try.underlying173
  a66 := Try.isAgg173
  z66 := Try.sizeOf173
  v66 := Try.zeroValue173
  t70 := Try.underlying177
  a70 := Try.isAgg177
  z70 := Try.sizeOf177
  v70 := Try.zeroValue177
  t76 := Try.underlying185
  a76 := Try.isAgg185
  z76 := Try.sizeOf185
  v76 := Try.zeroValue185
  t77 := Try.underlying186
  a77 := Try.isAgg186
  z77 := Try.sizeOf186
  v77 := Try.zeroValue186 }

end Go.Proofs.Ytofgdgdmmlgmnaa.lay
