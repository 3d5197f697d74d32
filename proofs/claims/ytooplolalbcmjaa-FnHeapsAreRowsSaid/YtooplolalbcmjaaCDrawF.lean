/-
  The contracts of the functions that draw the laws' words: they return some text that is not long.
-/
import Derived.Test.YtooplolalbcmjaaZD
namespace Go.Proofs.Ytooplolalbcmjaa
open Go.RowKit

end Go.Proofs.Ytooplolalbcmjaa
