/-
  The contracts of nuncio/qp's Encode and Decode, together.
-/
import Derived.Test.YtoplcmckglglcaaQpEncode
import Derived.Test.YtoplcmckglglcaaQpDecode
