/-
  What the program's window answers: proved in Wmp (New, Ref, Len, Moved, nil ones), Wad (Add), Wmn (Mean, Roll, Reset).
-/
import Derived.Test.YteljjjdejjkgfaaWmnq
namespace Go.Proofs.Yteljjjdejjkgfaa
end Go.Proofs.Yteljjjdejjkgfaa
