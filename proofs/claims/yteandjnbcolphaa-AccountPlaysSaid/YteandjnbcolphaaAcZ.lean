/- The six contracts of the landed package account. -/
import Derived.Test.YteandjnbcolphaaAgQ
namespace Go.Proofs.Yteandjnbcolphaa.Ac
end Go.Proofs.Yteandjnbcolphaa.Ac
