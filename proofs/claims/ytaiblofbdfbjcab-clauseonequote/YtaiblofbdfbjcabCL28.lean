/-
  replacedInAtom, with what Instance makes of a term. (Written by CL28.py.)
-/
import Derived.Test.YtaiblofbdfbjcabCL27
namespace Go.Proofs.Ytaiblofbdfbjcab
open Go.RowKit
attribute [local go_sem ↓] Go.wp_at_zero Go.wp_at_succ

end Go.Proofs.Ytaiblofbdfbjcab
