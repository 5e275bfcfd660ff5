import Derived.Test.YtkhnjipjbhcgdabPlainS
import Derived.WalkKit
/-
  WHAT Key, Sign, Open, Evidence, Convicts ARE TO ANSWER (no function of any translation is named).
-/
namespace Go.Proofs.Ytkhnjipjbhcgdab

/-- What Open is to answer. -/
def openE (key : Int) (b : ByteArray) : Int := if Pl.keyB key = false then 2 else if Pl.headB b = false then 3 else if Pl.rightB key.toNat b = false then 4 else 0
def openSize (key : Int) (b : ByteArray) : Nat := if openE key b = 0 then Pl.hSize b else 0
def openRoot (key : Int) (b : ByteArray) : ByteArray := if openE key b = 0 then Pl.hRoot b else ⟨#[]⟩

def textV (a b : ByteArray) : ByteArray := ⟨#[86]⟩ ++ a ++ b
/-- What Evidence is to answer. -/
def evid (key : Int) (one two : ByteArray) : ByteArray × Int :=
  if ¬ openE key one = 0 then (⟨#[]⟩, openE key one)
  else if ¬ openE key two = 0 then (⟨#[]⟩, openE key two)
  else if ¬ openSize key one = openSize key two then (⟨#[]⟩, 9)
  else if openRoot key one = openRoot key two then (⟨#[]⟩, 8)
  else if Op.bytesLess (openRoot key one).toList (openRoot key two).toList = true then (textV one two, 0)
  else (textV two one, 0)

/-- What Convicts is to answer. -/
def convE (key : Int) (v : ByteArray) : Int :=
  if Pl.keyB key = false then 2
  else if ¬ v.size = 23 then 3
  else if ¬ Pl.byt v 0 = 86 then 3
  else if Pl.headB (v.extract 1 12) = false then 3
  else if Pl.headB (v.extract 12 23) = false then 3
  else if ¬ Pl.hSize (v.extract 1 12) = Pl.hSize (v.extract 12 23) then 3
  else if Op.bytesLess (Pl.hRoot (v.extract 1 12)).toList (Pl.hRoot (v.extract 12 23)).toList = false then 3
  else if Pl.rightB key.toNat (v.extract 1 12) = false then 4
  else if Pl.rightB key.toNat (v.extract 12 23) = false then 4
  else 0

/-- What Key is to answer. -/
def keyAns (secret : Int) : Value := if 1 ≤ secret ∧ secret ≤ 1018 then .tuple #[.int .i64 (Pl.powM 4 secret.toNat : Nat), .int .i64 0] else .tuple #[.int .i64 0, .int .i64 1]
def signS (secret nonce size : Int) (root : ByteArray) : ByteArray := if Pl.signB secret nonce size root = true then Pl.signT secret.toNat nonce.toNat size.toNat root else ⟨#[]⟩
def signE (secret nonce size : Int) (root : ByteArray) : Int := if Pl.signB secret nonce size root = true then 0 else 1

end Go.Proofs.Ytkhnjipjbhcgdab
