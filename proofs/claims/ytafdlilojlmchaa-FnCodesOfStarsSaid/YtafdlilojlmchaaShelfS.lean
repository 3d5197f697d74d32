/-
  The contracts of the library, at this program.
-/
import Derived.Test.YtafdlilojlmchaaShelf
