/- Ways up in a right document. -/
import Derived.Test.YtmobcijigiacoaaJev11

namespace Go.Proofs.Ytmobcijigiacoaa
open Go.RowKit
/-- Within, the top, the nearest above of a name. -/
def withinB (l : List Nd) (id other : Int) : Bool := (anc l (parI l id)).contains other

end Go.Proofs.Ytmobcijigiacoaa
