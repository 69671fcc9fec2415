/- Contract of the document's own Ready; Ready anyhow. -/
import Derived.Test.YthffdkoncagimaaGV
namespace Go.Proofs.Ythffdkoncagimaa
set_option linter.unusedVariables false
set_option linter.unusedSimpArgs false
set_option maxRecDepth 100000
open Go.RowKit

end Go.Proofs.Ythffdkoncagimaa
