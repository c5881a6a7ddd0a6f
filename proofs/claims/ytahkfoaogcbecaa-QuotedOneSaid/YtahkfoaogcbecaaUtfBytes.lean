/-
  The contract of nuncio/nuncioref02.Bytes, with utf's small functions.
-/
import Derived.Test.YtahkfoaogcbecaaRefBytes
import Derived.Test.YtahkfoaogcbecaaUtfSmall
