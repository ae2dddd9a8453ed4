/-
  The numbers under which the library's functions stand in this program, laid in plain words by the shelf's own command: so its contract on strings.Contains speaks of this program.
-/
import Derived.Shelf.Strings.Search3
import Derived.Test.YtigmcbgcdjofjaaProg
namespace Go.Proofs
open Go.Shelf
def Try.lays144_ren : Go.Shelf.Ren := ⟨fun | 144 => 168 | 143 => 172 | 219 => 173 | 217 => 174 | 225 => 175 | 224 => 176 | 267 => 177 | 266 => 178 | 314 => 179 | n => n, fun | 9 => 9 | 4 => 4 | 3 => 3 | 5 => 5 | 46 => 221 | 146 => 227 | 51 => 226 | n => n, fun | 1 => 0 | n => n⟩
theorem Try.lays144 : Go.Proofs.Lays.n144 Try.prog Try.lays144_ren := {
  mixed := by kernel_rfl
  f143 := Try.func172.trans (congrArg some (by kernel_rfl))
  f144 := Try.func168.trans (congrArg some (by kernel_rfl))
  f217 := Try.func174.trans (congrArg some (by kernel_rfl))
  f219 := Try.func173.trans (congrArg some (by kernel_rfl))
  f224 := Try.func176.trans (congrArg some (by kernel_rfl))
  f225 := Try.func175.trans (congrArg some (by kernel_rfl))
  f266 := Try.func178.trans (congrArg some (by kernel_rfl))
  f267 := Try.func177.trans (congrArg some (by kernel_rfl))
  f314 := Try.func179.trans (congrArg some (by kernel_rfl))
  t3 := Try.underlying3
  a3 := Try.isAgg3
  z3 := Try.sizeOf3
  v3 := Try.zeroValue3
  t4 := Try.underlying4
  a4 := Try.isAgg4
  z4 := Try.sizeOf4
  v4 := Try.zeroValue4
  t5 := Try.underlying5
  a5 := Try.isAgg5
  z5 := Try.sizeOf5
  v5 := Try.zeroValue5
  t9 := Try.underlying9
  a9 := Try.isAgg9
  z9 := Try.sizeOf9
  v9 := Try.zeroValue9
  t46 := Try.underlying221
  a46 := Try.isAgg221
  z46 := Try.sizeOf221
  v46 := Try.zeroValue221
  t51 := Try.underlying226
  a51 := Try.isAgg226
  z51 := Try.sizeOf226
  v51 := Try.zeroValue226
  t146 := Try.underlying227
  a146 := Try.isAgg227
  z146 := Try.sizeOf227
  v146 := Try.zeroValue227
  g1 := by kernel_rfl }
end Go.Proofs
