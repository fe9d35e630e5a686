/-
  An order that rests, in plain numbers (no Go text).
-/
import Derived.Test.YtbkdakabpmpiiaaIn64
namespace Go.Proofs.Ytbkdakabpmpiiaa
structure Ord where
  id : Int
  owner : Int
  side : Int
  price : Int
  qty : Int
  flags : Int
  seq : Int
def Ord.zero : Ord := ⟨0, 0, 0, 0, 0, 0, 0⟩
structure Ord.Fit (m : Ord) : Prop where
  id : In64 m.id
  owner : In64 m.owner
  side : In64 m.side
  price : In64 m.price
  qty : In64 m.qty
  flags : In64 m.flags
  seq : In64 m.seq
end Go.Proofs.Ytbkdakabpmpiiaa
