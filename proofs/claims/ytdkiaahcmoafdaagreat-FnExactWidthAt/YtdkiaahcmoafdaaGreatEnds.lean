/-
  Contracts of EndOf, DepthOf and CountKind, of the model and of the program. For every slice of nodes.
-/
import Derived.Test.YtdkiaahcmoafdaaGreatPlain2
namespace Go.Proofs.YtdkiaahcmoafdaaGreat
open Go.RowKit
set_option linter.unusedSimpArgs false
set_option linter.unusedVariables false

end Go.Proofs.YtdkiaahcmoafdaaGreat
