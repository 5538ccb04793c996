/-
 The library's contracts that the proof takes, laid at this program by the kit's commands: nothing of our own.
-/
import Derived.Shelf.Strings.Builder1
import Derived.Shelf.Strings.Builder2
import Derived.Shelf.Strings.OnBuilder
import Derived.Shelf.Small.Bits
import Derived.Shelf.Strconv.Itoa0
import Derived.Shelf.Strconv.Itoa1
import Derived.Shelf.LaysM
import Derived.Shelf.Strconv.Itoa2
import Derived.Shelf.Strconv.Itoa3
import Derived.Shelf.Sort.Plain
import Derived.Ground.GgsProg
import Derived.Shelf.GgSortFunc.Insertion
import Derived.Shelf.GgSortFunc.Small
import Derived.Shelf.GgSortFunc.InsertionK
import Derived.Shelf.GgSortFunc.SmallK
import Derived.Shelf.GgSortFunc.Tiny
import Derived.Ground.Names2Prog
import Derived.Shelf.Slices.CompactI
import Derived.Test.YtjjelkdajdeikaaGreatDoorProg
import Derived.Test.YtjjelkdajdeikaaGreatDoorShelf
set_option maxHeartbeats 8000000
namespace Go.Proofs
open Go.Shelf
def Tryz.laysGg6_ren : Go.Shelf.Ren := ⟨fun | 6 => 187 | 10 => 211 | 11 => 212 | 12 => 213 | 13 => 210 | 14 => 214 | 24 => 234 | 25 => 174 | 26 => 244 | 27 => 245 | 28 => 246 | 29 => 247 | 30 => 248 | 31 => 249 | 32 => 250 | 33 => 251 | 34 => 263 | 35 => 264 | 36 => 265 | 37 => 266 | 38 => 267 | 39 => 274 | n => n, fun | 20 => 20 | 26 => 242 | 35 => 261 | 0 => 0 | 37 => 263 | 3 => 3 | 41 => 195 | 44 => 267 | 49 => 232 | 51 => 197 | 4 => 4 | 54 => 290 | 53 => 289 | 58 => 112 | 5 => 5 | 9 => 9 | 60 => 313 | 64 => 311 | 66 => 322 | 67 => 320 | 17 => 17 | 32 => 258 | 33 => 259 | 82 => 336 | 12 => 12 | 75 => 330 | 76 => 331 | 77 => 332 | 78 => 316 | 79 => 333 | 80 => 334 | n => n, fun | n => n⟩
theorem Tryz.laysGg6 : Go.Proofs.LaysGg.n6 Tryz.prog Tryz.laysGg6_ren := {
 mixed := by kernel_rfl
 f6 := Tryz.func187.trans (congrArg some (by kernel_rfl))
 f10 := Tryz.func211.trans (congrArg some (by kernel_rfl))
 f11 := Tryz.func212.trans (congrArg some (by kernel_rfl))
 f12 := Tryz.func213.trans (congrArg some (by kernel_rfl))
 f13 := Tryz.func210.trans (congrArg some (by kernel_rfl))
 f14 := Tryz.func214.trans (congrArg some (by kernel_rfl))
 f24 := Tryz.func234.trans (congrArg some (by kernel_rfl))
 f25 := Tryz.func174.trans (congrArg some (by kernel_rfl))
 f26 := Tryz.func244.trans (congrArg some (by kernel_rfl))
 f27 := Tryz.func245.trans (congrArg some (by kernel_rfl))
 f28 := Tryz.func246.trans (congrArg some (by kernel_rfl))
 f29 := Tryz.func247.trans (congrArg some (by kernel_rfl))
 f30 := Tryz.func248.trans (congrArg some (by kernel_rfl))
 f31 := Tryz.func249.trans (congrArg some (by kernel_rfl))
 f32 := Tryz.func250.trans (congrArg some (by kernel_rfl))
 f33 := Tryz.func251.trans (congrArg some (by kernel_rfl))
 f34 := Tryz.func263.trans (congrArg some (by kernel_rfl))
 f35 := Tryz.func264.trans (congrArg some (by kernel_rfl))
 f36 := Tryz.func265.trans (congrArg some (by kernel_rfl))
 f37 := Tryz.func266.trans (congrArg some (by kernel_rfl))
 f38 := Tryz.func267.trans (congrArg some (by kernel_rfl))
 f39 := Tryz.func274.trans (congrArg some (by kernel_rfl))
 t0 := Tryz.underlying0
 a0 := Tryz.isAgg0
 z0 := Tryz.sizeOf0
 v0 := Tryz.zeroValue0
 i0 := by kernel_rfl
 t3 := Tryz.underlying3
 a3 := Tryz.isAgg3
 z3 := Tryz.sizeOf3
 v3 := Tryz.zeroValue3
 i3 := by kernel_rfl
 t4 := Tryz.underlying4
 a4 := Tryz.isAgg4
 z4 := Tryz.sizeOf4
 v4 := Tryz.zeroValue4
 i4 := by kernel_rfl
 t5 := Tryz.underlying5
 a5 := Tryz.isAgg5
 z5 := Tryz.sizeOf5
 v5 := Tryz.zeroValue5
 i5 := by kernel_rfl
 t9 := Tryz.underlying9
 a9 := Tryz.isAgg9
 z9 := Tryz.sizeOf9
 v9 := Tryz.zeroValue9
 i9 := by kernel_rfl
 t12 := Tryz.underlying12
 a12 := Tryz.isAgg12
 z12 := Tryz.sizeOf12
 v12 := Tryz.zeroValue12
 i12 := by kernel_rfl
 t17 := Tryz.underlying17
 a17 := Tryz.isAgg17
 z17 := Tryz.sizeOf17
 v17 := Tryz.zeroValue17
 i17 := by kernel_rfl
 t20 := Tryz.underlying20
 a20 := Tryz.isAgg20
 z20 := Tryz.sizeOf20
 v20 := Tryz.zeroValue20
 i20 := by kernel_rfl
 t26 := Tryz.underlying242
 a26 := Tryz.isAgg242
 z26 := Tryz.sizeOf242
 v26 := Tryz.zeroValue242
 i26 := by kernel_rfl
 t32 := Tryz.underlying258
 a32 := Tryz.isAgg258
 z32 := Tryz.sizeOf258
 v32 := Tryz.zeroValue258
 i32 := by kernel_rfl
 t33 := Tryz.underlying259
 a33 := Tryz.isAgg259
 z33 := Tryz.sizeOf259
 v33 := Tryz.zeroValue259
 i33 := by kernel_rfl
 t35 := Tryz.underlying261
 a35 := Tryz.isAgg261
 z35 := Tryz.sizeOf261
 v35 := Tryz.zeroValue261
 i35 := by kernel_rfl
 t37 := Tryz.underlying263
 a37 := Tryz.isAgg263
 z37 := Tryz.sizeOf263
 v37 := Tryz.zeroValue263
 i37 := by kernel_rfl
 t41 := Tryz.underlying195
 a41 := Tryz.isAgg195
 z41 := Tryz.sizeOf195
 v41 := Tryz.zeroValue195
 i41 := by kernel_rfl
 t44 := Tryz.underlying267
 a44 := Tryz.isAgg267
 z44 := Tryz.sizeOf267
 v44 := Tryz.zeroValue267
 i44 := by kernel_rfl
 t49 := Tryz.underlying232
 a49 := Tryz.isAgg232
 z49 := Tryz.sizeOf232
 v49 := Tryz.zeroValue232
 i49 := by kernel_rfl
 t51 := Tryz.underlying197
 a51 := Tryz.isAgg197
 z51 := Tryz.sizeOf197
 v51 := Tryz.zeroValue197
 i51 := by kernel_rfl
 t53 := Tryz.underlying289
 a53 := Tryz.isAgg289
 z53 := Tryz.sizeOf289
 v53 := Tryz.zeroValue289
 i53 := by kernel_rfl
 t54 := Tryz.underlying290
 a54 := Tryz.isAgg290
 z54 := Tryz.sizeOf290
 v54 := Tryz.zeroValue290
 i54 := by kernel_rfl
 t58 := Tryz.underlying112
 a58 := Tryz.isAgg112
 z58 := Tryz.sizeOf112
 v58 := Tryz.zeroValue112
 i58 := by kernel_rfl
 t60 := Tryz.underlying313
 a60 := Tryz.isAgg313
 z60 := Tryz.sizeOf313
 v60 := Tryz.zeroValue313
 i60 := by kernel_rfl
 t64 := Tryz.underlying311
 a64 := Tryz.isAgg311
 z64 := Tryz.sizeOf311
 v64 := Tryz.zeroValue311
 i64 := by kernel_rfl
 t66 := Tryz.underlying322
 a66 := Tryz.isAgg322
 z66 := Tryz.sizeOf322
 v66 := Tryz.zeroValue322
 i66 := by kernel_rfl
 t67 := Tryz.underlying320
 a67 := Tryz.isAgg320
 z67 := Tryz.sizeOf320
 v67 := Tryz.zeroValue320
 i67 := by kernel_rfl
 t75 := Tryz.underlying330
 a75 := Tryz.isAgg330
 z75 := Tryz.sizeOf330
 v75 := Tryz.zeroValue330
 i75 := by kernel_rfl
 t76 := Tryz.underlying331
 a76 := Tryz.isAgg331
 z76 := Tryz.sizeOf331
 v76 := Tryz.zeroValue331
 i76 := by kernel_rfl
 t77 := Tryz.underlying332
 a77 := Tryz.isAgg332
 z77 := Tryz.sizeOf332
 v77 := Tryz.zeroValue332
 i77 := by kernel_rfl
 t78 := Tryz.underlying316
 a78 := Tryz.isAgg316
 z78 := Tryz.sizeOf316
 v78 := Tryz.zeroValue316
 i78 := by kernel_rfl
 t79 := Tryz.underlying333
 a79 := Tryz.isAgg333
 z79 := Tryz.sizeOf333
 v79 := Tryz.zeroValue333
 i79 := by kernel_rfl
 t80 := Tryz.underlying334
 a80 := Tryz.isAgg334
 z80 := Tryz.sizeOf334
 v80 := Tryz.zeroValue334
 i80 := by kernel_rfl
 t82 := Tryz.underlying336
 a82 := Tryz.isAgg336
 z82 := Tryz.sizeOf336
 v82 := Tryz.zeroValue336
 i82 := by kernel_rfl }
def Tryz.laysGg14_ren : Go.Shelf.Ren := ⟨fun | 14 => 214 | 26 => 244 | 27 => 245 | 28 => 246 | 29 => 247 | 30 => 248 | 31 => 249 | 32 => 250 | 33 => 251 | 34 => 263 | 35 => 264 | 36 => 265 | 37 => 266 | 38 => 267 | 13 => 210 | 39 => 274 | 24 => 234 | 25 => 174 | n => n, fun | 44 => 267 | 3 => 3 | 0 => 0 | 4 => 4 | 54 => 290 | 53 => 289 | 26 => 242 | 58 => 112 | 37 => 263 | 60 => 313 | 41 => 195 | 51 => 197 | 64 => 311 | 66 => 322 | 67 => 320 | 49 => 232 | 5 => 5 | 9 => 9 | n => n, fun | n => n⟩
theorem Tryz.laysGg14 : Go.Proofs.LaysGg.n14 Tryz.prog Tryz.laysGg14_ren := {
 mixed := by kernel_rfl
 f13 := Tryz.func210.trans (congrArg some (by kernel_rfl))
 f14 := Tryz.func214.trans (congrArg some (by kernel_rfl))
 f24 := Tryz.func234.trans (congrArg some (by kernel_rfl))
 f25 := Tryz.func174.trans (congrArg some (by kernel_rfl))
 f26 := Tryz.func244.trans (congrArg some (by kernel_rfl))
 f27 := Tryz.func245.trans (congrArg some (by kernel_rfl))
 f28 := Tryz.func246.trans (congrArg some (by kernel_rfl))
 f29 := Tryz.func247.trans (congrArg some (by kernel_rfl))
 f30 := Tryz.func248.trans (congrArg some (by kernel_rfl))
 f31 := Tryz.func249.trans (congrArg some (by kernel_rfl))
 f32 := Tryz.func250.trans (congrArg some (by kernel_rfl))
 f33 := Tryz.func251.trans (congrArg some (by kernel_rfl))
 f34 := Tryz.func263.trans (congrArg some (by kernel_rfl))
 f35 := Tryz.func264.trans (congrArg some (by kernel_rfl))
 f36 := Tryz.func265.trans (congrArg some (by kernel_rfl))
 f37 := Tryz.func266.trans (congrArg some (by kernel_rfl))
 f38 := Tryz.func267.trans (congrArg some (by kernel_rfl))
 f39 := Tryz.func274.trans (congrArg some (by kernel_rfl))
 t0 := Tryz.underlying0
 a0 := Tryz.isAgg0
 z0 := Tryz.sizeOf0
 v0 := Tryz.zeroValue0
 i0 := by kernel_rfl
 t3 := Tryz.underlying3
 a3 := Tryz.isAgg3
 z3 := Tryz.sizeOf3
 v3 := Tryz.zeroValue3
 i3 := by kernel_rfl
 t4 := Tryz.underlying4
 a4 := Tryz.isAgg4
 z4 := Tryz.sizeOf4
 v4 := Tryz.zeroValue4
 i4 := by kernel_rfl
 t5 := Tryz.underlying5
 a5 := Tryz.isAgg5
 z5 := Tryz.sizeOf5
 v5 := Tryz.zeroValue5
 i5 := by kernel_rfl
 t9 := Tryz.underlying9
 a9 := Tryz.isAgg9
 z9 := Tryz.sizeOf9
 v9 := Tryz.zeroValue9
 i9 := by kernel_rfl
 t26 := Tryz.underlying242
 a26 := Tryz.isAgg242
 z26 := Tryz.sizeOf242
 v26 := Tryz.zeroValue242
 i26 := by kernel_rfl
 t37 := Tryz.underlying263
 a37 := Tryz.isAgg263
 z37 := Tryz.sizeOf263
 v37 := Tryz.zeroValue263
 i37 := by kernel_rfl
 t41 := Tryz.underlying195
 a41 := Tryz.isAgg195
 z41 := Tryz.sizeOf195
 v41 := Tryz.zeroValue195
 i41 := by kernel_rfl
 t44 := Tryz.underlying267
 a44 := Tryz.isAgg267
 z44 := Tryz.sizeOf267
 v44 := Tryz.zeroValue267
 i44 := by kernel_rfl
 t49 := Tryz.underlying232
 a49 := Tryz.isAgg232
 z49 := Tryz.sizeOf232
 v49 := Tryz.zeroValue232
 i49 := by kernel_rfl
 t51 := Tryz.underlying197
 a51 := Tryz.isAgg197
 z51 := Tryz.sizeOf197
 v51 := Tryz.zeroValue197
 i51 := by kernel_rfl
 t53 := Tryz.underlying289
 a53 := Tryz.isAgg289
 z53 := Tryz.sizeOf289
 v53 := Tryz.zeroValue289
 i53 := by kernel_rfl
 t54 := Tryz.underlying290
 a54 := Tryz.isAgg290
 z54 := Tryz.sizeOf290
 v54 := Tryz.zeroValue290
 i54 := by kernel_rfl
 t58 := Tryz.underlying112
 a58 := Tryz.isAgg112
 z58 := Tryz.sizeOf112
 v58 := Tryz.zeroValue112
 i58 := by kernel_rfl
 t60 := Tryz.underlying313
 a60 := Tryz.isAgg313
 z60 := Tryz.sizeOf313
 v60 := Tryz.zeroValue313
 i60 := by kernel_rfl
 t64 := Tryz.underlying311
 a64 := Tryz.isAgg311
 z64 := Tryz.sizeOf311
 v64 := Tryz.zeroValue311
 i64 := by kernel_rfl
 t66 := Tryz.underlying322
 a66 := Tryz.isAgg322
 z66 := Tryz.sizeOf322
 v66 := Tryz.zeroValue322
 i66 := by kernel_rfl
 t67 := Tryz.underlying320
 a67 := Tryz.isAgg320
 z67 := Tryz.sizeOf320
 v67 := Tryz.zeroValue320
 i67 := by kernel_rfl }
open Go.RowKit Go.Lib Go.Sort in
theorem Tryz.pdqsort_func_tiny (lf : Fn) (la lb : Array Value) (f : Nat) (sb : Array Value) (n : Nat) (h : n ≤ 1) (lim : Int) (w : World) :
 Calls Tryz.prog 214 #[.agg #[.func lf la lb, .func (.func f) #[] sb], .int .i64 0, .int .i64 n, .int .i64 lim] w fun e w' => e = .returned (.tuple #[]) ∧ w' = (w.alloc (.cells #[.func lf la lb, .func (.func f) #[] sb] 267)).alloc (.cells #[.func lf la lb, .func (.func f) #[] sb] 267) := Any.pdqsort_func_tiny Tryz.laysGg14 lf la lb f sb n h lim w
end Go.Proofs
