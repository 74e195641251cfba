/- Several texts of mine in one: QtMath QtRead QtWords QtSplit. -/
import Derived.Test.YtndicjpbanmpjaaGreatDoorGRune
import Derived.Lib.RuneBytes
import Derived.Lib.Bytealg
import Derived.Lib.Join
import Derived.Shelf.Strings.Prefix
namespace Go.Proofs.YtndicjpbanmpjaaGreatDoor.Qt
open Go Rn

def hex (n : Nat) : UInt8 := if n < 10 then UInt8.ofNat (48 + n) else UInt8.ofNat (87 + n)
def esc (c : UInt8) : List UInt8 := [92, 120, hex (c.toNat / 16), hex (c.toNat % 16)]
/-- What stands for the rune (or the lost byte) at i. -/
def piece (s : ByteArray) (i : Nat) : List UInt8 :=
  if (Utf8.decode s i).1 = 34 ∨ (Utf8.decode s i).1 = 92 then [92, s.get! i]
  else if (Utf8.decode s i).1 < 32 ∨ (Utf8.decode s i).1 = 127 ∨ isBad s i = true then esc (s.get! i)
  else (s.data.toList.drop i).take (Utf8.decode s i).2
def bodyFrom (s : ByteArray) : Nat → Nat → List UInt8
  | 0, _ => []
  | b + 1, i => if i < s.size then piece s i ++ bodyFrom s b (i + (Utf8.decode s i).2) else []
def bodyAt (s : ByteArray) (i : Nat) : List UInt8 := bodyFrom s (s.size - i) i
def quote (s : ByteArray) : List UInt8 := 34 :: bodyAt s 0 ++ [34]

end Go.Proofs.YtndicjpbanmpjaaGreatDoor.Qt


namespace Go.Proofs.YtndicjpbanmpjaaGreatDoor.Qt
open Go Rn

def digits : List UInt8 := [48, 49, 50, 51, 52, 53, 54, 55, 56, 57, 97, 98, 99, 100, 101, 102]
/-- The program's value of a digit (255: it is none). -/
def hv (c : UInt8) : Nat := (Lib.indexByte digits c % 256).toNat
/-- Two digits' byte. -/
def mix (a b : UInt8) : UInt8 := UInt8.ofNat (((hv a * 16) % 256) ||| hv b)

/-- Within quotes, by runes: how far an escape is, what was read. -/
def plFrom (s : ByteArray) : Nat → Nat → Nat → List UInt8 → List UInt8
  | 0, _, _, out => out
  | b + 1, i, k, out => if i < s.size then
      (if (k = 0 ∧ (Utf8.decode s i).1 = 92) ∨ (k = 1 ∧ (Utf8.decode s i).1 = 120) ∨ k = 2 then plFrom s b (i + (Utf8.decode s i).2) (k + 1) out
       else if k = 3 then plFrom s b (i + (Utf8.decode s i).2) 0 (out ++ [mix (s.get! (i - 1)) (s.get! i)])
       else plFrom s b (i + (Utf8.decode s i).2) 0 (out ++ Lib.encodeRune ((Utf8.decode s i).1 : Int)))
    else out
def plAt (s : ByteArray) (i k : Nat) (out : List UInt8) : List UInt8 := plFrom s (s.size - i) i k out
def pl (s : ByteArray) : List UInt8 := plAt s 0 0 []

/-- The document's value of a digit (below 0: it is none). -/
def val (c : UInt8) : Int := if 48 ≤ c.toNat ∧ c.toNat ≤ 57 then (c.toNat : Int) - 48 else if 97 ≤ c.toNat ∧ c.toNat ≤ 102 then (c.toNat : Int) - 97 + 10 else -1
end Go.Proofs.YtndicjpbanmpjaaGreatDoor.Qt


namespace Go.Proofs.YtndicjpbanmpjaaGreatDoor.Qt
open Go Rn

/-- What the program reads: the quotes off, the rest by runes. -/
def trimmed (s : ByteArray) : List UInt8 := Lib.trimPrefix (Lib.trimSuffix s.data.toList [34]) [34]
def got (s : ByteArray) : List UInt8 := pl ⟨(trimmed s).toArray⟩
/-- The string of which s is the quoted form. -/
def unq (s : ByteArray) : Option (List UInt8) := if quote ⟨(got s).toArray⟩ = s.data.toList then some (got s) else none
end Go.Proofs.YtndicjpbanmpjaaGreatDoor.Qt


namespace Go.Proofs.YtndicjpbanmpjaaGreatDoor.Qt
open Go Rn

/-- The parts of a line, by bytes: the part begun, whether within quotes, whether behind a backslash there, the parts done. -/
def sp : List UInt8 → List UInt8 → Bool → Bool → List (List UInt8) → List (List UInt8)
  | [], cur, _, _, l => l ++ [cur]
  | c :: r, cur, qd, es, l =>
    if es = true then sp r (cur ++ [c]) qd false l
    else if c.toNat = 92 then sp r (cur ++ [c]) qd qd l
    else if c.toNat = 34 ∧ (qd = true ∨ cur = []) then sp r (cur ++ [c]) (!qd) es l
    else if c.toNat = 32 ∧ qd = false then sp r [] qd es (l ++ [cur])
    else sp r (cur ++ [c]) qd es l
def split (s : List UInt8) : List (List UInt8) := sp s [] false false []

/-- A word. -/
def bare (l : List UInt8) : Bool := l.all fun c => decide (32 < c.toNat)
def word (s : ByteArray) : Bool := if s.size = 0 then false else if byteAt s 0 = 34 then (unq s).isSome else bare s.data.toList

end Go.Proofs.YtndicjpbanmpjaaGreatDoor.Qt
