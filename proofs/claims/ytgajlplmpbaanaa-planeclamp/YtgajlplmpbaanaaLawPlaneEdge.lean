/- Beyond the edges all is as at the edge, walked over what Cut and Many are to do. -/
import Derived.Test.YtgajlplmpbaanaaLawPlaneBack
namespace Go.Proofs.Ytgajlplmpbaanaa
open Go.RowKit
set_option linter.unusedVariables false
set_option linter.unusedSimpArgs false
set_option maxRecDepth 100000

end Go.Proofs.Ytgajlplmpbaanaa
