/- What strings.IndexByte answers: the shelf's contract, laid at this program. No condition. -/
import Derived.Shelf.Small.Strs
import Derived.Test.YtlpgcapeladfnaaProg
import Derived.Test.YtlpgcapeladfnaaColTwo
import Derived.Test.YtlpgcapeladfnaaIxB
namespace Go.Proofs.Ytlpgcapeladfnaa
open Go.Shelf Go.RowKit


end Go.Proofs.Ytlpgcapeladfnaa
