/-
  What PutAll of package word returns: a contract by walking the Go text (a range over the iterator fours). Conditions: where the numbers lie, and how many they are.
-/
import Derived.Test.YtchnnpaebggfdaaJWordFours3
namespace Go.Proofs.Ytchnnpaebggfdaa
set_option maxRecDepth 100000
open Go.ChangeShapes Go.WideShapes Go.ChangeAt Go.RowKit Go.Deep Go.Shelf
namespace Wd
open Cr (Bytes)
attribute [local go_sem] Oper.semAt_some
end Wd
end Go.Proofs.Ytchnnpaebggfdaa
