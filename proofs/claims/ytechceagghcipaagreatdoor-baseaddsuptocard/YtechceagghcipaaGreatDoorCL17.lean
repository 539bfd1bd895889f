import Derived.Test.YtechceagghcipaaGreatDoorA1
import Derived.Test.YtechceagghcipaaGreatDoorCL14
namespace Go.Proofs.YtechceagghcipaaGreatDoor
open Go.RowKit

theorem Tryz.infoAtom : (Tryz.prog.info? 27).map (fun i => (i.zero, i.size, i.bytes)) = some (some (.agg #[.int .i64 0, .int .i64 0, .string ⟨#[]⟩, .string ⟨#[]⟩, .slice none 0 0]), 5, 72) := by kernel_rfl
end Go.Proofs.YtechceagghcipaaGreatDoor
