/- What the program says of the types of the elements: one cell each. -/
import Derived.Test.YtagjecbgbpjobaaRows
import Derived.Test.YtagjecbgbpjobaaHbase
import Derived.KernelRfl
namespace Go.Proofs.Ytagjecbgbpjobaa
open Go.RowKit Hb

theorem infoI : (Try.prog.info? 3).map (fun i => (i.zero, i.size, i.bytes)) = some (some (.int .i64 0), 1, 8) := by kernel_rfl
theorem infoU8 : (Try.prog.info? 5).map (fun i => (i.zero, i.size, i.bytes)) = some (some (.int .u8 0), 1, 1) := by kernel_rfl
theorem infoU64 : (Try.prog.info? 24).map (fun i => (i.zero, i.size, i.bytes)) = some (some (.int .u64 0), 1, 8) := by kernel_rfl

end Go.Proofs.Ytagjecbgbpjobaa
