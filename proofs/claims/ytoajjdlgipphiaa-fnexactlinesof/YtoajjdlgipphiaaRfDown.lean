/-
  Quotients that are rounded down, of both; each theorem names its conditions.
-/
import Derived.Test.YtoajjdlgipphiaaDd
import Derived.Test.YtoajjdlgipphiaaRfDn
