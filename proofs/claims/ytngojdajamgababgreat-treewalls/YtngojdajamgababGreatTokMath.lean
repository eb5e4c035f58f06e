/- Bytes and names of markup, as functions. -/
import Derived.Test.YtngojdajamgababGreatTakeL
namespace Go.Proofs.YtngojdajamgababGreat

def smallB (c : UInt8) : Bool := decide (97 ≤ c.toNat) && decide (c.toNat ≤ 122)
def bigB (c : UInt8) : Bool := decide (65 ≤ c.toNat) && decide (c.toNat ≤ 90)
def letterB (c : UInt8) : Bool := smallB c || bigB c
def digB (c : UInt8) : Bool := decide (48 ≤ c.toNat) && decide (c.toNat ≤ 57)
def whiteB (c : UInt8) : Bool := c == 9 || c == 10 || c == 12 || c == 13 || c == 32
def lowB (c : UInt8) : UInt8 := if bigB c then c + 32 else c
def lowerL (l : List UInt8) : List UInt8 := l.map lowB
def nameB (c : UInt8) : Bool := smallB c || digB c || c == 45
def isNameL (l : List UInt8) : Bool := decide (1 ≤ l.length) && decide (l.length ≤ 20) && smallB (l.getD 0 0) && l.all nameB

def tagN (c : UInt8) : Bool := !whiteB c && c != 47 && c != 62
def attrN (c : UInt8) : Bool := !whiteB c && c != 47 && c != 62 && c != 61
def valN (c : UInt8) : Bool := !whiteB c && c != 62
def skipB (c : UInt8) : Bool := whiteB c || c == 47
def noLt (c : UInt8) : Bool := c != 60
end Go.Proofs.YtngojdajamgababGreat
