/- slices.Sort of a slice of ints at this program: laid by the shelf in plain words. -/
import Derived.Shelf.Sort.Plain
import Derived.Test.YtlkoafnlklhaeaaDoorProg
namespace Go.Proofs
open Go.Shelf
def Tryd.lays189_ren : Go.Shelf.Ren := ⟨fun | 189 => 165 | 125 => 197 | 257 => 196 | 128 => 217 | 129 => 218 | 294 => 208 | 295 => 209 | 296 => 210 | 297 => 211 | 298 => 212 | 299 => 213 | 216 => 214 | 300 => 215 | 301 => 216 | 328 => 219 | 329 => 220 | 330 => 221 | 331 => 222 | 332 => 223 | 215 => 224 | 343 => 225 | n => n, fun | 28 => 97 | 3 => 3 | 46 => 205 | 0 => 0 | 51 => 222 | 53 => 225 | 4 => 4 | 183 => 236 | 182 => 235 | 131 => 167 | 5 => 5 | 9 => 9 | 218 => 244 | 222 => 248 | 228 => 250 | 229 => 251 | n => n, fun | n => n⟩
theorem Tryd.lays189 : Go.Proofs.Lays.n189 Tryd.prog Tryd.lays189_ren := {
  mixed := by kernel_rfl
  f125 := Tryd.func197.trans (congrArg some (by kernel_rfl))
  f128 := Tryd.func217.trans (congrArg some (by kernel_rfl))
  f129 := Tryd.func218.trans (congrArg some (by kernel_rfl))
  f189 := Tryd.func165.trans (congrArg some (by kernel_rfl))
  f215 := Tryd.func224.trans (congrArg some (by kernel_rfl))
  f216 := Tryd.func214.trans (congrArg some (by kernel_rfl))
  f257 := Tryd.func196.trans (congrArg some (by kernel_rfl))
  f294 := Tryd.func208.trans (congrArg some (by kernel_rfl))
  f295 := Tryd.func209.trans (congrArg some (by kernel_rfl))
  f296 := Tryd.func210.trans (congrArg some (by kernel_rfl))
  f297 := Tryd.func211.trans (congrArg some (by kernel_rfl))
  f298 := Tryd.func212.trans (congrArg some (by kernel_rfl))
  f299 := Tryd.func213.trans (congrArg some (by kernel_rfl))
  f300 := Tryd.func215.trans (congrArg some (by kernel_rfl))
  f301 := Tryd.func216.trans (congrArg some (by kernel_rfl))
  f328 := Tryd.func219.trans (congrArg some (by kernel_rfl))
  f329 := Tryd.func220.trans (congrArg some (by kernel_rfl))
  f330 := Tryd.func221.trans (congrArg some (by kernel_rfl))
  f331 := Tryd.func222.trans (congrArg some (by kernel_rfl))
  f332 := Tryd.func223.trans (congrArg some (by kernel_rfl))
  f343 := Tryd.func225.trans (congrArg some (by kernel_rfl))
  t0 := Tryd.underlying0
  a0 := Tryd.isAgg0
  z0 := Tryd.sizeOf0
  v0 := Tryd.zeroValue0
  t3 := Tryd.underlying3
  a3 := Tryd.isAgg3
  z3 := Tryd.sizeOf3
  v3 := Tryd.zeroValue3
  t4 := Tryd.underlying4
  a4 := Tryd.isAgg4
  z4 := Tryd.sizeOf4
  v4 := Tryd.zeroValue4
  t5 := Tryd.underlying5
  a5 := Tryd.isAgg5
  z5 := Tryd.sizeOf5
  v5 := Tryd.zeroValue5
  t9 := Tryd.underlying9
  a9 := Tryd.isAgg9
  z9 := Tryd.sizeOf9
  v9 := Tryd.zeroValue9
  t28 := Tryd.underlying97
  a28 := Tryd.isAgg97
  z28 := Tryd.sizeOf97
  v28 := Tryd.zeroValue97
  t46 := Tryd.underlying205
  a46 := Tryd.isAgg205
  z46 := Tryd.sizeOf205
  v46 := Tryd.zeroValue205
  t51 := Tryd.underlying222
  a51 := Tryd.isAgg222
  z51 := Tryd.sizeOf222
  v51 := Tryd.zeroValue222
  t53 := Tryd.underlying225
  a53 := Tryd.isAgg225
  z53 := Tryd.sizeOf225
  v53 := Tryd.zeroValue225
  t131 := Tryd.underlying167
  a131 := Tryd.isAgg167
  z131 := Tryd.sizeOf167
  v131 := Tryd.zeroValue167
  t182 := Tryd.underlying235
  a182 := Tryd.isAgg235
  z182 := Tryd.sizeOf235
  v182 := Tryd.zeroValue235
  t183 := Tryd.underlying236
  a183 := Tryd.isAgg236
  z183 := Tryd.sizeOf236
  v183 := Tryd.zeroValue236
  t218 := Tryd.underlying244
  a218 := Tryd.isAgg244
  z218 := Tryd.sizeOf244
  v218 := Tryd.zeroValue244
  t222 := Tryd.underlying248
  a222 := Tryd.isAgg248
  z222 := Tryd.sizeOf248
  v222 := Tryd.zeroValue248
  t228 := Tryd.underlying250
  a228 := Tryd.isAgg250
  z228 := Tryd.sizeOf250
  v228 := Tryd.zeroValue250
  t229 := Tryd.underlying251
  a229 := Tryd.isAgg251
  z229 := Tryd.sizeOf251
  v229 := Tryd.zeroValue251 }
open Go.Sort Go.RowKit in
theorem Tryd.slices_Sort_int (blk off cap : Nat) (zs : List Int) (w : World) (hH : Holds (Value.int .i64) w blk off zs.toArray) (hblk : blk < w.heap.size) (hsz : zs.length < 4611686018427387904) :
    Calls Tryd.prog 165 #[.slice (some ⟨blk, off, none⟩) zs.length cap] w fun e w' =>
      e = .returned (.tuple #[]) ∧ ∃ n os, w' = grow (putRow (Value.int .i64) (Sort.ahead w n) blk off (zs.mergeSort fun x y => decide (x ≤ y)).toArray) os := Any.slices_Sort_int Tryd.lays189 blk off cap zs w hH hblk hsz
end Go.Proofs
