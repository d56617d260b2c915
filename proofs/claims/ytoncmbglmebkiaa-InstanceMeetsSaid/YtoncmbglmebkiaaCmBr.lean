/- Check, the document's own. -/
import Derived.Test.YtoncmbglmebkiaaCmA
namespace Go.Proofs.Ytoncmbglmebkiaa.Cm
open Go.RowKit
set_option linter.unusedVariables false
open Go.Proofs.Ytoncmbglmebkiaa.Rw
open Go.Proofs.Ytoncmbglmebkiaa.Fx (ret_v ret_bool ret_int)
end Go.Proofs.Ytoncmbglmebkiaa.Cm
/- Check, the document's own. -/
namespace Go.Proofs.Ytoncmbglmebkiaa.Cm
open Go.RowKit
set_option linter.unusedVariables false
open Go.Proofs.Ytoncmbglmebkiaa.Rw
open Go.Proofs.Ytoncmbglmebkiaa.Fx (ret_v ret_bool ret_int)
end Go.Proofs.Ytoncmbglmebkiaa.Cm
/- Check, the document's own. -/
namespace Go.Proofs.Ytoncmbglmebkiaa.Cm
open Go.RowKit
set_option linter.unusedVariables false
open Go.Proofs.Ytoncmbglmebkiaa.Rw
open Go.Proofs.Ytoncmbglmebkiaa.Fx (ret_v ret_bool ret_int)
end Go.Proofs.Ytoncmbglmebkiaa.Cm
/- Check, the document's own. -/
namespace Go.Proofs.Ytoncmbglmebkiaa.Cm
open Go.RowKit
set_option linter.unusedVariables false
open Go.Proofs.Ytoncmbglmebkiaa.Rw
open Go.Proofs.Ytoncmbglmebkiaa.Fx (ret_v ret_bool ret_int)
end Go.Proofs.Ytoncmbglmebkiaa.Cm
/- Check, the document's own. -/
namespace Go.Proofs.Ytoncmbglmebkiaa.Cm
open Go.RowKit
set_option linter.unusedVariables false
open Go.Proofs.Ytoncmbglmebkiaa.Rw
open Go.Proofs.Ytoncmbglmebkiaa.Fx (ret_v ret_bool ret_int)
end Go.Proofs.Ytoncmbglmebkiaa.Cm
