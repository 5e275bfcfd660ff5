import Derived.Test.YtkhnjipjbhcgdaaGreatPlainS
import Derived.WalkKit
/-
  WHAT Included AND Extended ARE TO ANSWER (no function of any translation is named).
-/
namespace Go.Proofs.YtkhnjipjbhcgdaaGreat

def inclA (r : ByteArray) (size index : Int) (leaf : ByteArray) (path : List ByteArray) : Int :=
  if Pl.isSumB r = true ∧ Pl.ansB size index leaf = true then
    (match Pl.leafT leaf index.toNat size.toNat path with
    | none => 6
    | some (_, x) => if x = r then 0 else 6)
  else 1
def extA (os : Int) (a : ByteArray) (fs : Int) (b : ByteArray) (path : List ByteArray) : Int :=
  if Pl.isSumB a = true ∧ Pl.isSumB b = true ∧ 1 ≤ os ∧ os ≤ fs ∧ fs ≤ 40 then
    (match Pl.bothT a os.toNat fs.toNat true path with
    | none => 6
    | some (_, x, y) => if x = a ∧ y = b then 0 else 6)
  else 1
end Go.Proofs.YtkhnjipjbhcgdaaGreat
