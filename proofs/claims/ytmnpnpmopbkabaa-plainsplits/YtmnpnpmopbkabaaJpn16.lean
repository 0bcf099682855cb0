/- Ends of lines in texts, as lists of bytes. -/
import Derived.Test.YtmnpnpmopbkabaaJpn2

namespace Go.Proofs.Ytmnpnpmopbkabaa
open Go.RowKit
def linesS (s : ByteArray) : ByteArray := endsS ⟨#[10]⟩ s
theorem linesS_size (s : ByteArray) : (linesS s).size ≤ 2 * s.size := endsS_size _ _ (by decide)

end Go.Proofs.Ytmnpnpmopbkabaa
