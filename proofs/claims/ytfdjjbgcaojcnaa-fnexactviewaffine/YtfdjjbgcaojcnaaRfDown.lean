/-
  Quotients that are rounded down, of both; each theorem names its conditions.
-/
import Derived.Test.YtfdjjbgcaojcnaaDd
import Derived.Test.YtfdjjbgcaojcnaaRfDn
