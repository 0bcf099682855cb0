/- Parts made of entries and read again. Sizes of parts. -/
import Derived.Test.YtgibkbeakfaehaaDoorJpt22

namespace Go.Proofs.YtgibkbeakfaehaaDoor
open Go.RowKit
/-- What is told of an entry. -/
def toldE (e : En) : En := ⟨txt (unL (nameL (bL e.name))), txt (valP e), e.file, if e.file = true then txt (unL (nameL (bL e.fname))) else ⟨#[]⟩, if e.file = true then txt (typeL (bL e.typ)) else ⟨#[]⟩⟩
end Go.Proofs.YtgibkbeakfaehaaDoor

namespace Go.Proofs.YtgibkbeakfaehaaDoor
open Go.RowKit
theorem told_n (l : List En) : (l.map toldE).length = l.length := List.length_map ..

end Go.Proofs.YtgibkbeakfaehaaDoor
