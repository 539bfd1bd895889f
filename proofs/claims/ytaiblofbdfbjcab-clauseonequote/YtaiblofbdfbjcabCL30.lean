/-
  Instance. (Written by CL30.py.)
-/
import Derived.Test.YtaiblofbdfbjcabCL29
namespace Go.Proofs.Ytaiblofbdfbjcab
open Go.RowKit
attribute [local go_sem ↓] Go.wp_at_zero Go.wp_at_succ

end Go.Proofs.Ytaiblofbdfbjcab
