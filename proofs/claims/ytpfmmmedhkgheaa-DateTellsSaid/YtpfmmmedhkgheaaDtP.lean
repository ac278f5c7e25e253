/-
  Package date: its six answers.
-/
import Derived.Test.YtpfmmmedhkgheaaDtF
import Derived.Test.YtpfmmmedhkgheaaDtG
