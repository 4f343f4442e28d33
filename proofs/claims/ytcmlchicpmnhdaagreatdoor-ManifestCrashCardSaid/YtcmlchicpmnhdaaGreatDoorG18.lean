/-
  Texts one behind the other: DiskShelf, DiskSpec.
-/
import Derived.Shelf.Bytes.SlClone
import Derived.Shelf.SlMaps.Copy
import Derived.Shelf.SlIter.Nil
import Derived.Shelf.SortM.Plain
import Derived.Shelf.SortM.SortNone
import Derived.Shelf.SlIterI.Nil
import Derived.Test.YtcmlchicpmnhdaaGreatDoorProg
import Derived.Maps.OwnSet
import Derived.Maps.RangeWalk
import Derived.Lib.SlMapMerge
import Derived.Lib.SlKeysI
import Derived.Test.YtcmlchicpmnhdaaGreatDoorG03
/-
  The contracts of Go's library that the proofs of this seat use, laid at the numbers of its program.
-/
namespace Go.Proofs.YtcmlchicpmnhdaaGreatDoor
open Go.Shelf
def Shelf.clone_ren : Go.Shelf.Ren := ⟨fun | 4 => 63 | n => n, fun | 22 => 51 | 4 => 4 | 5 => 5 | n => n, fun | n => n⟩
theorem Shelf.clone : Go.Proofs.SlLaysK.n4 Tryz.prog Shelf.clone_ren := {
  mixed := by kernel_rfl,
  f4 := Tryz.func63.trans (congrArg some (by kernel_rfl)),
  t4 := Tryz.underlying4,
  a4 := Tryz.isAgg4,
  z4 := Tryz.sizeOf4,
  v4 := Tryz.zeroValue4,
  t22 := Tryz.underlying51,
  a22 := Tryz.isAgg51,
  z22 := Tryz.sizeOf51,
  v22 := Tryz.zeroValue51,
  t5 := Tryz.underlying5,
  i5 := by kernel_rfl }
def Shelf.mcopy_ren : Go.Shelf.Ren := ⟨fun | 5 => 28 | n => n, fun | 23 => 55 | 24 => 55 | 26 => 9 | 27 => 69 | 0 => 0 | 4 => 4 | n => n, fun | n => n⟩
theorem Shelf.mcopy : Go.Proofs.SlLaysX.n5 Tryz.prog Shelf.mcopy_ren := {
  mixed := by kernel_rfl,
  f5 := ⟨Tryz.f28.name, by decide, Tryz.func28.trans (congrArg some (by kernel_rfl))⟩,
  t0 := Tryz.underlying0,
  a0 := Tryz.isAgg0,
  z0 := Tryz.sizeOf0,
  v0 := Tryz.zeroValue0,
  t4 := Tryz.underlying4,
  a4 := Tryz.isAgg4,
  z4 := Tryz.sizeOf4,
  v4 := Tryz.zeroValue4,
  t23 := Tryz.underlying55,
  a23 := Tryz.isAgg55,
  z23 := Tryz.sizeOf55,
  v23 := Tryz.zeroValue55,
  t24 := Tryz.underlying55,
  a24 := Tryz.isAgg55,
  z24 := Tryz.sizeOf55,
  v24 := Tryz.zeroValue55,
  a26 := Tryz.isAgg9,
  z26 := Tryz.sizeOf9,
  a27 := Tryz.isAgg69,
  z27 := Tryz.sizeOf69 }
def Shelf.keysS_ren : Go.Shelf.Ren := ⟨fun | 7 => 59 | 10 => 87 | n => n, fun | 23 => 55 | 26 => 9 | 3 => 69 | 28 => 114 | 0 => 0 | 27 => 113 | 33 => 138 | 4 => 4 | n => n, fun | n => n⟩
theorem Shelf.keysS : Go.Proofs.SlLaysZ.n7 Tryz.prog Shelf.keysS_ren := {
  mixed := by kernel_rfl,
  f7 := ⟨Tryz.f59.name, by decide, Tryz.func59.trans (congrArg some (by kernel_rfl))⟩,
  f10 := ⟨Tryz.f87.name, by decide, Tryz.func87.trans (congrArg some (by kernel_rfl))⟩,
  t0 := Tryz.underlying0,
  a0 := Tryz.isAgg0,
  z0 := Tryz.sizeOf0,
  v0 := Tryz.zeroValue0,
  t4 := Tryz.underlying4,
  a4 := Tryz.isAgg4,
  z4 := Tryz.sizeOf4,
  v4 := Tryz.zeroValue4,
  t23 := Tryz.underlying55,
  a23 := Tryz.isAgg55,
  z23 := Tryz.sizeOf55,
  v23 := Tryz.zeroValue55,
  t26 := Tryz.underlying9,
  a26 := Tryz.isAgg9,
  z26 := Tryz.sizeOf9,
  v26 := Tryz.zeroValue9,
  t27 := Tryz.underlying113,
  a27 := Tryz.isAgg113,
  z27 := Tryz.sizeOf113,
  v27 := Tryz.zeroValue113,
  t28 := Tryz.underlying114,
  a28 := Tryz.isAgg114,
  z28 := Tryz.sizeOf114,
  v28 := Tryz.zeroValue114,
  t33 := Tryz.underlying138,
  a33 := Tryz.isAgg138,
  z33 := Tryz.sizeOf138,
  v33 := Tryz.zeroValue138 }
def Shelf.sortedS_ren : Go.Shelf.Ren := ⟨fun | 6 => 58 | 8 => 85 | 9 => 86 | 11 => 99 | 13 => 101 | 12 => 100 | 23 => 114 | 24 => 115 | 14 => 105 | 15 => 106 | 16 => 107 | 17 => 108 | 18 => 109 | 19 => 110 | 20 => 111 | 21 => 112 | 22 => 113 | 25 => 125 | 26 => 126 | 27 => 127 | 28 => 128 | 29 => 129 | 30 => 130 | 31 => 135 | n => n, fun | 26 => 9 | 28 => 114 | 24 => 73 | 0 => 0 | 3 => 3 | 37 => 139 | 48 => 31 | 50 => 32 | 4 => 4 | 40 => 160 | 39 => 159 | 45 => 64 | 5 => 5 | 9 => 9 | 51 => 175 | 55 => 179 | 57 => 183 | 58 => 184 | 33 => 138 | n => n, fun | n => n⟩
theorem Shelf.sortedS : Go.Proofs.SlLaysZ.n6 Tryz.prog Shelf.sortedS_ren := {
  mixed := by kernel_rfl,
  f6 := ⟨Tryz.f58.name, by decide, Tryz.func58.trans (congrArg some (by kernel_rfl))⟩,
  f8 := ⟨Tryz.f85.name, by decide, Tryz.func85.trans (congrArg some (by kernel_rfl))⟩,
  f11 := ⟨Tryz.f99.name, by decide, Tryz.func99.trans (congrArg some (by kernel_rfl))⟩,
  t0 := Tryz.underlying0,
  a0 := Tryz.isAgg0,
  z0 := Tryz.sizeOf0,
  v0 := Tryz.zeroValue0,
  t24 := Tryz.underlying73,
  a24 := Tryz.isAgg73,
  z24 := Tryz.sizeOf73,
  v24 := Tryz.zeroValue73,
  t26 := Tryz.underlying9,
  a26 := Tryz.isAgg9,
  z26 := Tryz.sizeOf9,
  v26 := Tryz.zeroValue9,
  t28 := Tryz.underlying114,
  a28 := Tryz.isAgg114,
  z28 := Tryz.sizeOf114,
  v28 := Tryz.zeroValue114,
  i26 := by kernel_rfl }
def Shelf.sortS_ren : Go.Shelf.Ren := ⟨fun | 6 => 86 | 8 => 101 | 9 => 100 | 19 => 114 | 20 => 115 | 21 => 105 | 22 => 106 | 23 => 107 | 24 => 108 | 25 => 109 | 26 => 110 | 27 => 111 | 28 => 112 | 29 => 113 | 36 => 125 | 31 => 126 | 32 => 127 | 37 => 128 | 38 => 129 | 39 => 130 | 41 => 135 | n => n, fun | 27 => 73 | 29 => 9 | 3 => 3 | 32 => 139 | 26 => 73 | 0 => 0 | 44 => 31 | 46 => 32 | 4 => 4 | 36 => 160 | 35 => 159 | 41 => 64 | 5 => 5 | 9 => 9 | 53 => 175 | 57 => 179 | 63 => 183 | 64 => 184 | n => n, fun | n => n⟩
theorem Shelf.sortS : Go.Proofs.SlLaysM.n6 Tryz.prog Shelf.sortS_ren := {
  mixed := by kernel_rfl,
  f6 := ⟨Tryz.f86.name, by decide, Tryz.func86.trans (congrArg some (by kernel_rfl))⟩,
  f8 := Tryz.func101.trans (congrArg some (by kernel_rfl)),
  f9 := ⟨Tryz.f100.name, by decide, Tryz.func100.trans (congrArg some (by kernel_rfl))⟩,
  f19 := Tryz.func114.trans (congrArg some (by kernel_rfl)),
  f20 := Tryz.func115.trans (congrArg some (by kernel_rfl)),
  f21 := ⟨Tryz.f105.name, by decide, Tryz.func105.trans (congrArg some (by kernel_rfl))⟩,
  f22 := ⟨Tryz.f106.name, by decide, Tryz.func106.trans (congrArg some (by kernel_rfl))⟩,
  f23 := ⟨Tryz.f107.name, by decide, Tryz.func107.trans (congrArg some (by kernel_rfl))⟩,
  f24 := ⟨Tryz.f108.name, by decide, Tryz.func108.trans (congrArg some (by kernel_rfl))⟩,
  f25 := ⟨Tryz.f109.name, by decide, Tryz.func109.trans (congrArg some (by kernel_rfl))⟩,
  f26 := ⟨Tryz.f110.name, by decide, Tryz.func110.trans (congrArg some (by kernel_rfl))⟩,
  f27 := ⟨Tryz.f111.name, by decide, Tryz.func111.trans (congrArg some (by kernel_rfl))⟩,
  f28 := ⟨Tryz.f112.name, by decide, Tryz.func112.trans (congrArg some (by kernel_rfl))⟩,
  f29 := ⟨Tryz.f113.name, by decide, Tryz.func113.trans (congrArg some (by kernel_rfl))⟩,
  f31 := Tryz.func126.trans (congrArg some (by kernel_rfl)),
  f32 := Tryz.func127.trans (congrArg some (by kernel_rfl)),
  f36 := ⟨Tryz.f125.name, by decide, Tryz.func125.trans (congrArg some (by kernel_rfl))⟩,
  f37 := ⟨Tryz.f128.name, by decide, Tryz.func128.trans (congrArg some (by kernel_rfl))⟩,
  f38 := ⟨Tryz.f129.name, by decide, Tryz.func129.trans (congrArg some (by kernel_rfl))⟩,
  f39 := ⟨Tryz.f130.name, by decide, Tryz.func130.trans (congrArg some (by kernel_rfl))⟩,
  f41 := ⟨Tryz.f135.name, by decide, Tryz.func135.trans (congrArg some (by kernel_rfl))⟩,
  t0 := Tryz.underlying0,
  a0 := Tryz.isAgg0,
  z0 := Tryz.sizeOf0,
  v0 := Tryz.zeroValue0,
  t3 := Tryz.underlying3,
  a3 := Tryz.isAgg3,
  z3 := Tryz.sizeOf3,
  v3 := Tryz.zeroValue3,
  t4 := Tryz.underlying4,
  a4 := Tryz.isAgg4,
  z4 := Tryz.sizeOf4,
  v4 := Tryz.zeroValue4,
  t5 := Tryz.underlying5,
  a5 := Tryz.isAgg5,
  z5 := Tryz.sizeOf5,
  v5 := Tryz.zeroValue5,
  t9 := Tryz.underlying9,
  a9 := Tryz.isAgg9,
  z9 := Tryz.sizeOf9,
  v9 := Tryz.zeroValue9,
  t26 := Tryz.underlying73,
  a26 := Tryz.isAgg73,
  z26 := Tryz.sizeOf73,
  v26 := Tryz.zeroValue73,
  t27 := Tryz.underlying73,
  a27 := Tryz.isAgg73,
  z27 := Tryz.sizeOf73,
  v27 := Tryz.zeroValue73,
  t29 := Tryz.underlying9,
  a29 := Tryz.isAgg9,
  z29 := Tryz.sizeOf9,
  v29 := Tryz.zeroValue9,
  t32 := Tryz.underlying139,
  a32 := Tryz.isAgg139,
  z32 := Tryz.sizeOf139,
  v32 := Tryz.zeroValue139,
  t35 := Tryz.underlying159,
  a35 := Tryz.isAgg159,
  z35 := Tryz.sizeOf159,
  v35 := Tryz.zeroValue159,
  t36 := Tryz.underlying160,
  a36 := Tryz.isAgg160,
  z36 := Tryz.sizeOf160,
  v36 := Tryz.zeroValue160,
  t41 := Tryz.underlying64,
  a41 := Tryz.isAgg64,
  z41 := Tryz.sizeOf64,
  v41 := Tryz.zeroValue64,
  t44 := Tryz.underlying31,
  a44 := Tryz.isAgg31,
  z44 := Tryz.sizeOf31,
  v44 := Tryz.zeroValue31,
  t46 := Tryz.underlying32,
  a46 := Tryz.isAgg32,
  z46 := Tryz.sizeOf32,
  v46 := Tryz.zeroValue32,
  t53 := Tryz.underlying175,
  a53 := Tryz.isAgg175,
  z53 := Tryz.sizeOf175,
  v53 := Tryz.zeroValue175,
  t57 := Tryz.underlying179,
  a57 := Tryz.isAgg179,
  z57 := Tryz.sizeOf179,
  v57 := Tryz.zeroValue179,
  t63 := Tryz.underlying183,
  a63 := Tryz.isAgg183,
  z63 := Tryz.sizeOf183,
  v63 := Tryz.zeroValue183,
  t64 := Tryz.underlying184,
  a64 := Tryz.isAgg184,
  z64 := Tryz.sizeOf184,
  v64 := Tryz.zeroValue184 }
def Shelf.keysI_ren : Go.Shelf.Ren := ⟨fun | 7 => 61 | 10 => 90 | n => n, fun | 23 => 76 | 26 => 3 | 3 => 51 | 28 => 118 | 0 => 0 | 27 => 117 | 33 => 145 | 4 => 4 | n => n, fun | n => n⟩
theorem Shelf.keysI : Go.Proofs.SlLaysZI.n7 Tryz.prog Shelf.keysI_ren := {
  mixed := by kernel_rfl,
  f7 := ⟨Tryz.f61.name, by decide, Tryz.func61.trans (congrArg some (by kernel_rfl))⟩,
  f10 := ⟨Tryz.f90.name, by decide, Tryz.func90.trans (congrArg some (by kernel_rfl))⟩,
  t0 := Tryz.underlying0,
  a0 := Tryz.isAgg0,
  z0 := Tryz.sizeOf0,
  v0 := Tryz.zeroValue0,
  t4 := Tryz.underlying4,
  a4 := Tryz.isAgg4,
  z4 := Tryz.sizeOf4,
  v4 := Tryz.zeroValue4,
  t23 := Tryz.underlying76,
  a23 := Tryz.isAgg76,
  z23 := Tryz.sizeOf76,
  v23 := Tryz.zeroValue76,
  t26 := Tryz.underlying3,
  a26 := Tryz.isAgg3,
  z26 := Tryz.sizeOf3,
  v26 := Tryz.zeroValue3,
  t27 := Tryz.underlying117,
  a27 := Tryz.isAgg117,
  z27 := Tryz.sizeOf117,
  v27 := Tryz.zeroValue117,
  t28 := Tryz.underlying118,
  a28 := Tryz.isAgg118,
  z28 := Tryz.sizeOf118,
  v28 := Tryz.zeroValue118,
  t33 := Tryz.underlying145,
  a33 := Tryz.isAgg145,
  z33 := Tryz.sizeOf145,
  v33 := Tryz.zeroValue145 }
def Shelf.sortedI_ren : Go.Shelf.Ren := ⟨fun | 6 => 60 | 8 => 88 | 9 => 89 | 11 => 102 | 13 => 101 | 12 => 103 | 23 => 114 | 24 => 115 | 14 => 116 | 15 => 117 | 16 => 118 | 17 => 119 | 18 => 120 | 19 => 121 | 20 => 122 | 21 => 123 | 22 => 124 | 25 => 131 | 26 => 126 | 27 => 127 | 28 => 132 | 29 => 133 | 30 => 134 | 31 => 136 | n => n, fun | 26 => 3 | 28 => 118 | 24 => 75 | 0 => 0 | 3 => 3 | 37 => 139 | 48 => 31 | 50 => 32 | 4 => 4 | 40 => 160 | 39 => 159 | 45 => 64 | 5 => 5 | 9 => 9 | 51 => 175 | 55 => 179 | 57 => 183 | 58 => 184 | 33 => 145 | n => n, fun | n => n⟩
theorem Shelf.sortedI : Go.Proofs.SlLaysZI.n6 Tryz.prog Shelf.sortedI_ren := {
  mixed := by kernel_rfl,
  f6 := ⟨Tryz.f60.name, by decide, Tryz.func60.trans (congrArg some (by kernel_rfl))⟩,
  f8 := ⟨Tryz.f88.name, by decide, Tryz.func88.trans (congrArg some (by kernel_rfl))⟩,
  f11 := ⟨Tryz.f102.name, by decide, Tryz.func102.trans (congrArg some (by kernel_rfl))⟩,
  t0 := Tryz.underlying0,
  a0 := Tryz.isAgg0,
  z0 := Tryz.sizeOf0,
  v0 := Tryz.zeroValue0,
  t24 := Tryz.underlying75,
  a24 := Tryz.isAgg75,
  z24 := Tryz.sizeOf75,
  v24 := Tryz.zeroValue75,
  t26 := Tryz.underlying3,
  a26 := Tryz.isAgg3,
  z26 := Tryz.sizeOf3,
  v26 := Tryz.zeroValue3,
  t28 := Tryz.underlying118,
  a28 := Tryz.isAgg118,
  z28 := Tryz.sizeOf118,
  v28 := Tryz.zeroValue118,
  i26 := by kernel_rfl }
def Shelf.sortI_ren : Go.Shelf.Ren := ⟨fun | 5 => 89 | 8 => 101 | 7 => 103 | 19 => 114 | 20 => 115 | 10 => 116 | 11 => 117 | 12 => 118 | 13 => 119 | 14 => 120 | 15 => 121 | 16 => 122 | 17 => 123 | 18 => 124 | 30 => 131 | 31 => 126 | 32 => 127 | 33 => 132 | 34 => 133 | 35 => 134 | 40 => 136 | n => n, fun | 23 => 75 | 25 => 3 | 3 => 3 | 32 => 139 | 22 => 75 | 0 => 0 | 44 => 31 | 46 => 32 | 4 => 4 | 36 => 160 | 35 => 159 | 41 => 64 | 5 => 5 | 9 => 9 | 53 => 175 | 57 => 179 | 63 => 183 | 64 => 184 | n => n, fun | n => n⟩
theorem Shelf.sortI : Go.Proofs.SlLaysM.n5 Tryz.prog Shelf.sortI_ren := {
  mixed := by kernel_rfl,
  f5 := ⟨Tryz.f89.name, by decide, Tryz.func89.trans (congrArg some (by kernel_rfl))⟩,
  f7 := ⟨Tryz.f103.name, by decide, Tryz.func103.trans (congrArg some (by kernel_rfl))⟩,
  f8 := Tryz.func101.trans (congrArg some (by kernel_rfl)),
  f10 := ⟨Tryz.f116.name, by decide, Tryz.func116.trans (congrArg some (by kernel_rfl))⟩,
  f11 := ⟨Tryz.f117.name, by decide, Tryz.func117.trans (congrArg some (by kernel_rfl))⟩,
  f12 := ⟨Tryz.f118.name, by decide, Tryz.func118.trans (congrArg some (by kernel_rfl))⟩,
  f13 := ⟨Tryz.f119.name, by decide, Tryz.func119.trans (congrArg some (by kernel_rfl))⟩,
  f14 := ⟨Tryz.f120.name, by decide, Tryz.func120.trans (congrArg some (by kernel_rfl))⟩,
  f15 := ⟨Tryz.f121.name, by decide, Tryz.func121.trans (congrArg some (by kernel_rfl))⟩,
  f16 := ⟨Tryz.f122.name, by decide, Tryz.func122.trans (congrArg some (by kernel_rfl))⟩,
  f17 := ⟨Tryz.f123.name, by decide, Tryz.func123.trans (congrArg some (by kernel_rfl))⟩,
  f18 := ⟨Tryz.f124.name, by decide, Tryz.func124.trans (congrArg some (by kernel_rfl))⟩,
  f19 := Tryz.func114.trans (congrArg some (by kernel_rfl)),
  f20 := Tryz.func115.trans (congrArg some (by kernel_rfl)),
  f30 := ⟨Tryz.f131.name, by decide, Tryz.func131.trans (congrArg some (by kernel_rfl))⟩,
  f31 := Tryz.func126.trans (congrArg some (by kernel_rfl)),
  f32 := Tryz.func127.trans (congrArg some (by kernel_rfl)),
  f33 := ⟨Tryz.f132.name, by decide, Tryz.func132.trans (congrArg some (by kernel_rfl))⟩,
  f34 := ⟨Tryz.f133.name, by decide, Tryz.func133.trans (congrArg some (by kernel_rfl))⟩,
  f35 := ⟨Tryz.f134.name, by decide, Tryz.func134.trans (congrArg some (by kernel_rfl))⟩,
  f40 := ⟨Tryz.f136.name, by decide, Tryz.func136.trans (congrArg some (by kernel_rfl))⟩,
  t0 := Tryz.underlying0,
  a0 := Tryz.isAgg0,
  z0 := Tryz.sizeOf0,
  v0 := Tryz.zeroValue0,
  t3 := Tryz.underlying3,
  a3 := Tryz.isAgg3,
  z3 := Tryz.sizeOf3,
  v3 := Tryz.zeroValue3,
  t4 := Tryz.underlying4,
  a4 := Tryz.isAgg4,
  z4 := Tryz.sizeOf4,
  v4 := Tryz.zeroValue4,
  t5 := Tryz.underlying5,
  a5 := Tryz.isAgg5,
  z5 := Tryz.sizeOf5,
  v5 := Tryz.zeroValue5,
  t9 := Tryz.underlying9,
  a9 := Tryz.isAgg9,
  z9 := Tryz.sizeOf9,
  v9 := Tryz.zeroValue9,
  t22 := Tryz.underlying75,
  a22 := Tryz.isAgg75,
  z22 := Tryz.sizeOf75,
  v22 := Tryz.zeroValue75,
  t23 := Tryz.underlying75,
  a23 := Tryz.isAgg75,
  z23 := Tryz.sizeOf75,
  v23 := Tryz.zeroValue75,
  t25 := Tryz.underlying3,
  a25 := Tryz.isAgg3,
  z25 := Tryz.sizeOf3,
  v25 := Tryz.zeroValue3,
  t32 := Tryz.underlying139,
  a32 := Tryz.isAgg139,
  z32 := Tryz.sizeOf139,
  v32 := Tryz.zeroValue139,
  t35 := Tryz.underlying159,
  a35 := Tryz.isAgg159,
  z35 := Tryz.sizeOf159,
  v35 := Tryz.zeroValue159,
  t36 := Tryz.underlying160,
  a36 := Tryz.isAgg160,
  z36 := Tryz.sizeOf160,
  v36 := Tryz.zeroValue160,
  t41 := Tryz.underlying64,
  a41 := Tryz.isAgg64,
  z41 := Tryz.sizeOf64,
  v41 := Tryz.zeroValue64,
  t44 := Tryz.underlying31,
  a44 := Tryz.isAgg31,
  z44 := Tryz.sizeOf31,
  v44 := Tryz.zeroValue31,
  t46 := Tryz.underlying32,
  a46 := Tryz.isAgg32,
  z46 := Tryz.sizeOf32,
  v46 := Tryz.zeroValue32,
  t53 := Tryz.underlying175,
  a53 := Tryz.isAgg175,
  z53 := Tryz.sizeOf175,
  v53 := Tryz.zeroValue175,
  t57 := Tryz.underlying179,
  a57 := Tryz.isAgg179,
  z57 := Tryz.sizeOf179,
  v57 := Tryz.zeroValue179,
  t63 := Tryz.underlying183,
  a63 := Tryz.isAgg183,
  z63 := Tryz.sizeOf183,
  v63 := Tryz.zeroValue183,
  t64 := Tryz.underlying184,
  a64 := Tryz.isAgg184,
  z64 := Tryz.sizeOf184,
  v64 := Tryz.zeroValue184 }
end Go.Proofs.YtcmlchicpmnhdaaGreatDoor
/-
  Plain facts: directories and sectors as rising lists, and the maps that they read as; what a disk of package disk is, as a value; nothing of a program.
-/
namespace Go.Proofs.YtcmlchicpmnhdaaGreatDoor.Disk
open Go.RowKit Go.Maps
set_option linter.unusedVariables false
set_option linter.unusedSimpArgs false

/-- How an element of a map reads: as itself. -/
def held (v : Value) : Option (DataW Value × List MemPlace) := some (.held v, [])
abbrev Nm := List UInt8
abbrev Dir := List (Nm × Nat)
/-- A file's pointer. -/
def fp (g : Nat) : Value := .pointer (some ⟨g, 0, none⟩)
def dirEnt (p : Nm × Nat) : Lit × DataW Value := (.string p.1, .held (fp p.2))
def dirMap (N : Dir) : DataW Value := .map (N.map dirEnt)
def dins (x : Nm × Nat) : Dir → Dir
  | [] => [x]
  | y :: r => if bytesBefore x.1 y.1 then x :: y :: r else y :: dins x r
def ddel (n : Nm) (N : Dir) : Dir := N.filter fun p => !(p.1 == n)
def dput (n : Nm) (g : Nat) (N : Dir) : Dir := dins (n, g) (ddel n N)
def dget (n : Nm) (N : Dir) : Option Nat := (N.find? fun p => p.1 == n).map (·.2)

theorem dirMap_del (n : Nm) (N : Dir) : (dirMap N).del (.string n) = dirMap (ddel n N) := by
  show DataW.map ((N.map dirEnt).filter _) = .map ((N.filter _).map dirEnt)
  rw [List.filter_map]
  rfl
theorem dirMap_ins (x : Nm × Nat) : ∀ N : Dir, DataW.insert (dirEnt x) (N.map dirEnt) = (dins x N).map dirEnt
  | [] => rfl
  | y :: r => by
    show (if bytesBefore x.1 y.1 = true then _ else _) = _
    unfold dins
    split
    · rfl
    · rw [List.map_cons, dirMap_ins x r]
theorem dirMap_put (n : Nm) (g : Nat) (N : Dir) : (dirMap N).put (.string n) (.held (fp g)) = dirMap (dput n g N) := by
  show DataW.map (DataW.insert (dirEnt (n, g)) ((N.map dirEnt).filter _)) = .map ((dput n g N).map dirEnt)
  rw [List.filter_map]
  exact congrArg _ (dirMap_ins (n, g) _)
theorem dirMap_at (n : Nm) (N : Dir) (z : DataW Value) : (dirMap N).atKey (.string n) z = match dget n N with | some g => .held (fp g) | none => z := by
  have e : (N.map dirEnt).find? (fun p => p.1.sameKey (.string n)) = (N.find? fun p => p.1 == n).map dirEnt := by
    rw [List.find?_map]
    rfl
  unfold dget dirMap DataW.atKey
  simp only [e]
  cases N.find? (fun p => p.1 == n) <;> rfl
theorem dirMap_size (N : Dir) : Maps.size (dirMap N) = N.length := by simp [dirMap, Maps.size]
theorem dirMap_keys (N : Dir) : strKeys (dirMap N) = N.map (·.1) := by
  show (N.map dirEnt).map _ = _
  rw [List.map_map]
  rfl
theorem dget_mem {n : Nm} {N : Dir} {g : Nat} (h : dget n N = some g) : (n, g) ∈ N := by
  unfold dget at h
  obtain ⟨p, hp, rfl⟩ := Option.map_eq_some_iff.1 h
  have := List.find?_some hp
  have hm := List.mem_of_find?_eq_some hp
  simp only [beq_iff_eq] at this
  subst this
  exact hm
theorem dget_none {n : Nm} {N : Dir} (h : dget n N = none) : ∀ p ∈ N, p.1 ≠ n := by
  intro p hp e
  have h' := (Option.map_eq_none_iff.1 h)
  have := List.find?_eq_none.1 h' p hp
  simp [e] at this
theorem ddel_len (n : Nm) (N : Dir) : (ddel n N).length ≤ N.length := List.length_filter_le _ _
theorem dins_len (x : Nm × Nat) : ∀ N : Dir, (dins x N).length = N.length + 1
  | [] => rfl
  | y :: r => by
    unfold dins
    split
    · rfl
    · simp [dins_len x r]
theorem dput_len (n : Nm) (g : Nat) (N : Dir) : (dput n g N).length ≤ N.length + 1 := by
  rw [dput, dins_len]
  have := ddel_len n N
  omega
theorem dins_mem {x p : Nm × Nat} : ∀ {N : Dir}, p ∈ dins x N ↔ p = x ∨ p ∈ N
  | [] => by simp [dins]
  | y :: r => by
    unfold dins
    split
    · simp
    · rw [List.mem_cons, dins_mem, List.mem_cons]
      constructor
      · rintro (h | h | h) <;> simp [h]
      · rintro (h | h | h) <;> simp [h]
theorem dput_mem {n : Nm} {g : Nat} {p : Nm × Nat} {N : Dir} (h : p ∈ dput n g N) : p = (n, g) ∨ p ∈ N := by
  rcases dins_mem.1 h with h | h
  · exact .inl h
  · exact .inr (List.mem_filter.1 h).1
theorem ddel_mem {n : Nm} {p : Nm × Nat} {N : Dir} (h : p ∈ ddel n N) : p ∈ N := (List.mem_filter.1 h).1

/-! Sectors. -/
abbrev Secs := List (Nat × Value)
def secEnt (p : Nat × Value) : Lit × DataW Value := (.int .i64 (p.1 : Int), .held p.2)
def secMap (L : Secs) : DataW Value := .map (L.map secEnt)
def sins (x : Nat × Value) : Secs → Secs
  | [] => [x]
  | y :: r => if x.1 < y.1 then x :: y :: r else y :: sins x r
def sput (s : Nat) (v : Value) (L : Secs) : Secs := sins (s, v) (L.filter fun p => !decide (p.1 = s))
def shas (s : Nat) (L : Secs) : Bool := L.any fun p => decide (p.1 = s)
def sget (s : Nat) (L : Secs) : Option Value := (L.find? fun p => decide (p.1 = s)).map (·.2)
theorem sec_same (p : Nat × Value) (s : Nat) : (secEnt p).1.sameKey (.int .i64 (s : Int)) = decide (p.1 = s) := by
  show decide (IntKind.i64 = IntKind.i64 ∧ (p.1 : Int) = (s : Int)) = _
  by_cases h : p.1 = s
  · simp [h]
  · have : ¬ ((p.1 : Int) = (s : Int)) := by omega
    simp [h, this]
theorem secMap_ins (x : Nat × Value) : ∀ L : Secs, DataW.insert (secEnt x) (L.map secEnt) = (sins x L).map secEnt
  | [] => rfl
  | y :: r => by
    show (if decide ((x.1 : Int) < (y.1 : Int)) = true then _ else _) = _
    unfold sins
    by_cases h : x.1 < y.1
    · rw [if_pos (by simp; omega), if_pos h]
      rfl
    · rw [if_neg (by simp; omega), if_neg h, List.map_cons, secMap_ins x r]
theorem secMap_put (s : Nat) (v : Value) (L : Secs) : (secMap L).put (.int .i64 (s : Int)) (.held v) = secMap (sput s v L) := by
  show DataW.map (DataW.insert (secEnt (s, v)) ((L.map secEnt).filter _)) = .map ((sput s v L).map secEnt)
  rw [List.filter_map]
  have e : (L.filter ((fun p : Lit × DataW Value => !p.1.sameKey (.int .i64 (s : Int))) ∘ secEnt)) = L.filter fun p => !decide (p.1 = s) := by
    apply List.filter_congr
    intro p _
    show (!(secEnt p).1.sameKey _) = _
    rw [sec_same]
  rw [e]
  exact congrArg _ (secMap_ins (s, v) _)
theorem secMap_has (s : Nat) (L : Secs) : Maps.has (secMap L) (.int .i64 (s : Int)) = shas s L := by
  show (L.map secEnt).any _ = _
  rw [List.any_map]
  unfold shas
  congr 1
  funext p
  exact sec_same p s
theorem secMap_at (s : Nat) (L : Secs) (z : DataW Value) : (secMap L).atKey (.int .i64 (s : Int)) z = match sget s L with | some v => .held v | none => z := by
  have e : (L.map secEnt).find? (fun p => p.1.sameKey (.int .i64 (s : Int))) = (L.find? fun p => decide (p.1 = s)).map secEnt := by
    rw [List.find?_map]
    congr 2
    funext p
    exact sec_same p s
  unfold sget secMap DataW.atKey
  simp only [e]
  cases L.find? (fun p => decide (p.1 = s)) <;> rfl
theorem secMap_size (L : Secs) : Maps.size (secMap L) = L.length := by simp [secMap, Maps.size]
theorem secMap_keys (L : Secs) : intKeys (secMap L) = L.map fun p => (p.1 : Int) := by
  show (L.map secEnt).map _ = _
  rw [List.map_map]
  rfl
theorem sins_mem {x p : Nat × Value} : ∀ {L : Secs}, p ∈ sins x L ↔ p = x ∨ p ∈ L
  | [] => by simp [sins]
  | y :: r => by
    unfold sins
    split
    · simp
    · rw [List.mem_cons, sins_mem, List.mem_cons]
      constructor
      · rintro (h | h | h) <;> simp [h]
      · rintro (h | h | h) <;> simp [h]
theorem sins_rising (x : Nat × Value) : ∀ {L : Secs}, L.Pairwise (fun p q => p.1 < q.1) → (∀ p ∈ L, p.1 ≠ x.1) → (sins x L).Pairwise (fun p q => p.1 < q.1)
  | [], _, _ => by simp [sins]
  | y :: r, h, hne => by
    obtain ⟨h1, h2⟩ := List.pairwise_cons.1 h
    have hy := hne y (by simp)
    unfold sins
    split
    · rename_i hlt
      refine List.pairwise_cons.2 ⟨fun q hq => ?_, h⟩
      rcases List.mem_cons.1 hq with rfl | hq
      · exact hlt
      · have := h1 q hq; omega
    · refine List.pairwise_cons.2 ⟨fun q hq => ?_, sins_rising x h2 (fun p hp => hne p (by simp [hp]))⟩
      rcases sins_mem.1 hq with rfl | hq
      · omega
      · exact h1 q hq
theorem shas_mem {s : Nat} {L : Secs} : shas s L = true ↔ s ∈ L.map (·.1) := by
  unfold shas
  rw [List.any_eq_true, List.mem_map]
  constructor
  · rintro ⟨p, hp, h⟩; exact ⟨p, hp, by simpa using h⟩
  · rintro ⟨p, hp, h⟩; exact ⟨p, hp, by simpa using h⟩
theorem sput_new {s : Nat} {L : Secs} (v : Value) (h : shas s L = false) : sput s v L = sins (s, v) L := by
  unfold sput
  rw [List.filter_eq_self.2]
  intro p hp
  have : ¬ s ∈ L.map (·.1) := by rw [← shas_mem]; simp [h]
  have : p.1 ≠ s := fun e => this (List.mem_map.2 ⟨p, hp, e⟩)
  simp [this]
theorem sins_len (x : Nat × Value) : ∀ L : Secs, (sins x L).length = L.length + 1
  | [] => rfl
  | y :: r => by
    unfold sins
    split
    · rfl
    · simp [sins_len x r]
theorem rising_len : ∀ (L : Secs) (a m : Nat), L.Pairwise (fun p q => p.1 < q.1) → (∀ p ∈ L, a ≤ p.1 ∧ p.1 < m) → L.length ≤ m - a
  | [], _, _, _, _ => by simp
  | y :: r, a, m, h, hb => by
    obtain ⟨h1, h2⟩ := List.pairwise_cons.1 h
    have hy := hb y (by simp)
    have := rising_len r (y.1 + 1) m h2 (fun p hp => ⟨h1 p hp, (hb p (by simp [hp])).2⟩)
    rw [List.length_cons]
    omega

/-! Files, changes, disks. -/
/-- A file: its bytes, those that were synced, and the dirty sectors, each with the slice that keeps its bytes of then. -/
structure Fl where
  now : List UInt8
  was : List UInt8
  soiled : Secs
structure Fl.Ok (x : Fl) : Prop where
  le : x.was.length ≤ x.now.length
  max : x.now.length ≤ 4194304
  rising : x.soiled.Pairwise fun p q => p.1 < q.1
  within : ∀ p ∈ x.soiled, 64 * p.1 < 4194304
  clean : ∀ i, i < x.was.length → shas (i / 64) x.soiled = false → x.now[i]? = x.was[i]?
theorem Fl.Ok.count {x : Fl} (h : x.Ok) : x.soiled.length ≤ 65536 := by
  have := rising_len x.soiled 0 65536 h.rising (fun p hp => ⟨by omega, by have := h.within p hp; omega⟩)
  omega
structure Chg where
  gone : ByteArray
  name : ByteArray
  file : Option Nat
def Chg.ptr (c : Chg) : Value := .pointer (c.file.map fun g => ⟨g, 0, none⟩)
def Chg.cells (c : Chg) : List Value := [.string c.gone, .string c.name, c.ptr]
def Chg.on (c : Chg) (N : Dir) : Dir :=
  match c.file with
  | some g => dput c.name.data.toList g (ddel c.gone.data.toList N)
  | none => ddel c.gone.data.toList N
def chgCells (l : List Chg) : List Value := l.flatMap Chg.cells
theorem chgCells_len (l : List Chg) : (chgCells l).length = l.length * 3 := by
  induction l with
  | nil => rfl
  | cons c r ih =>
    show (c.cells ++ chgCells r).length = _
    rw [List.length_append, ih, List.length_cons, Nat.add_mul, Nat.add_comm]
    rfl
theorem chgCells_snoc (l : List Chg) (c : Chg) : chgCells (l ++ [c]) = chgCells l ++ c.cells := by simp [chgCells]
structure Dk where
  room : Int
  N : Dir
  S : Dir
  wait : List Chg
  calls : Int
  reads : Int
  failing : Bool
  others : Int
  fl : Nat → Fl
/-- The files that a disk reaches. -/
def Dk.refs (d : Dk) (g : Nat) : Prop := g ∈ d.N.map (·.2) ∨ g ∈ d.S.map (·.2) ∨ ∃ c ∈ d.wait, c.file = some g
structure Dk.Ok (d : Dk) (K : Nat) : Prop where
  big : K ≤ 1073741824
  room : 0 ≤ d.room ∧ d.room ≤ 4194304
  N : d.N.length ≤ K
  S : d.S.length + d.wait.length ≤ K
  names : ∀ c ∈ d.wait, c.gone.size ≤ maxLen ∧ c.name.size ≤ maxLen
  calls : 0 ≤ d.calls ∧ d.calls ≤ K
  reads : 0 ≤ d.reads ∧ d.reads ≤ K * 4194304
  others : 0 ≤ d.others ∧ d.others ≤ 9223372036854775807
def upd (fl : Nat → Fl) (g : Nat) (x : Fl) : Nat → Fl := fun j => if j = g then x else fl j
end Go.Proofs.YtcmlchicpmnhdaaGreatDoor.Disk
