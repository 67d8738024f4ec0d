/- No function of Go's library is called here. -/
import Derived.Test.YtmfoihalganggaaRows
import Derived.Test.YtmfoihalganggaaProg
namespace Go.Proofs.Ytmfoihalganggaa
end Go.Proofs.Ytmfoihalganggaa
