/- THE PLAIN SPECIFICATION OF CHAPTER 1: what the texts of two languages are read as, as functions of lists of bytes. No program stands here. -/
import Derived.Lib.IndexMore
import Derived.Lib.SlTrimSet
namespace Go.Proofs.YtfmpcchlpplanaaGreatDoor

def isLetter (c : UInt8) : Bool := decide (97 ≤ c.toNat ∧ c.toNat ≤ 122 ∨ 65 ≤ c.toNat ∧ c.toNat ≤ 90)
def isDigit (c : UInt8) : Bool := decide (48 ≤ c.toNat ∧ c.toNat ≤ 57)
def isPart (c : UInt8) : Bool := isLetter c || isDigit c
def isSpace (c : UInt8) : Bool := decide (c.toNat = 32 ∨ c.toNat = 9 ∨ c.toNat = 10)
def isPermitted (c : UInt8) : Bool := decide (c.toNat = 9 ∨ c.toNat = 10 ∨ 32 ≤ c.toNat ∧ c.toNat ≤ 126)
def isHexa (c : UInt8) : Bool := decide (48 ≤ c.toNat ∧ c.toNat ≤ 57 ∨ 65 ≤ c.toNat ∧ c.toNat ≤ 70)
def isBit (c : UInt8) : Bool := decide (c.toNat = 48 ∨ c.toNat = 49)

def asnW : List (List UInt8) := [[65, 76, 76], [65, 80, 80, 76, 73, 67, 65, 84, 73, 79, 78], [65, 85, 84, 79, 77, 65, 84, 73, 67], [66, 69, 71, 73, 78], [66, 73, 84], [66, 79, 79, 76, 69, 65, 78], [66, 89], [67, 72, 79, 73, 67, 69], [67, 76, 65, 83, 83], [67, 79, 77, 80, 79, 78, 69, 78, 84], [67, 79, 77, 80, 79, 78, 69, 78, 84, 83], [68, 69, 70, 65, 85, 76, 84], [68, 69, 70, 73, 78, 73, 84, 73, 79, 78, 83], [69, 78, 68], [69, 78, 85, 77, 69, 82, 65, 84, 69, 68], [69, 88, 67, 69, 80, 84], [69, 88, 80, 76, 73, 67, 73, 84], [69, 88, 80, 79, 82, 84, 83], [70, 65, 76, 83, 69], [70, 82, 79, 77], [73, 65, 53, 83, 116, 114, 105, 110, 103], [73, 68, 69, 78, 84, 73, 70, 73, 69, 82], [73, 77, 80, 76, 73, 67, 73, 84], [73, 77, 80, 79, 82, 84, 83], [73, 78, 84, 69, 71, 69, 82], [73, 78, 84, 69, 82, 83, 69, 67, 84, 73, 79, 78], [77, 65, 88], [77, 73, 78], [78, 85, 76, 76], [78, 117, 109, 101, 114, 105, 99, 83, 116, 114, 105, 110, 103], [79, 66, 74, 69, 67, 84], [79, 67, 84, 69, 84], [79, 70], [79, 80, 84, 73, 79, 78, 65, 76], [80, 82, 73, 86, 65, 84, 69], [80, 114, 105, 110, 116, 97, 98, 108, 101, 83, 116, 114, 105, 110, 103], [82, 69, 65, 76], [83, 69, 81, 85, 69, 78, 67, 69], [83, 69, 84], [83, 73, 90, 69], [83, 84, 82, 73, 78, 71], [83, 89, 78, 84, 65, 88], [84, 65, 71, 83], [84, 82, 85, 69], [85, 78, 73, 79, 78], [85, 78, 73, 81, 85, 69], [85, 78, 73, 86, 69, 82, 83, 65, 76], [86, 105, 115, 105, 98, 108, 101, 83, 116, 114, 105, 110, 103], [87, 73, 84, 72]]
def ttcnW : List (List UInt8) := [[97, 99, 116, 105, 111, 110], [97, 99, 116, 105, 118, 97, 116, 101], [97, 108, 105, 118, 101], [97, 108, 108], [97, 108, 116], [97, 108, 116, 115, 116, 101, 112], [97, 110, 100], [97, 110, 100, 52, 98], [97, 110, 121], [97, 110, 121, 116, 121, 112, 101], [98, 105, 116, 115, 116, 114, 105, 110, 103], [98, 111, 111, 108, 101, 97, 110], [98, 114, 101, 97, 107], [99, 97, 108, 108], [99, 97, 116, 99, 104], [99, 104, 97, 114, 115, 116, 114, 105, 110, 103], [99, 104, 101, 99, 107], [99, 108, 101, 97, 114], [99, 111, 109, 112, 108, 101, 109, 101, 110, 116], [99, 111, 109, 112, 111, 110, 101, 110, 116], [99, 111, 110, 110, 101, 99, 116], [99, 111, 110, 115, 116], [99, 111, 110, 116, 114, 111, 108], [99, 114, 101, 97, 116, 101], [100, 101, 97, 99, 116, 105, 118, 97, 116, 101], [100, 101, 102, 97, 117, 108, 116], [100, 105, 115, 99, 111, 110, 110, 101, 99, 116], [100, 105, 115, 112, 108, 97, 121], [100, 111], [100, 111, 110, 101], [101, 108, 115, 101], [101, 110, 99, 111, 100, 101], [101, 110, 117, 109, 101, 114, 97, 116, 101, 100], [101, 114, 114, 111, 114], [101, 120, 99, 101, 112, 116], [101, 120, 99, 101, 112, 116, 105, 111, 110], [101, 120, 101, 99, 117, 116, 101], [101, 120, 116, 101, 110, 100, 115], [101, 120, 116, 101, 110, 115, 105, 111, 110], [101, 120, 116, 101, 114, 110, 97, 108], [102, 97, 105, 108], [102, 97, 108, 115, 101], [102, 108, 111, 97, 116], [102, 111, 114], [102, 114, 105, 101, 110, 100], [102, 114, 111, 109], [102, 117, 110, 99, 116, 105, 111, 110], [103, 101, 116, 99, 97, 108, 108], [103, 101, 116, 114, 101, 112, 108, 121], [103, 101, 116, 118, 101, 114, 100, 105, 99, 116], [103, 111, 116, 111], [103, 114, 111, 117, 112], [104, 97, 108, 116], [104, 101, 120, 115, 116, 114, 105, 110, 103], [105, 102], [105, 102, 112, 114, 101, 115, 101, 110, 116], [105, 109, 112, 111, 114, 116], [105, 110], [105, 110, 99, 111, 110, 99], [105, 110, 102, 105, 110, 105, 116, 121], [105, 110, 111, 117, 116], [105, 110, 116, 101, 103, 101, 114], [105, 110, 116, 101, 114, 108, 101, 97, 118, 101], [107, 105, 108, 108], [107, 105, 108, 108, 101, 100], [108, 97, 98, 101, 108], [108, 97, 110, 103, 117, 97, 103, 101], [108, 101, 110, 103, 116, 104], [108, 111, 103], [109, 97, 112], [109, 97, 116, 99, 104], [109, 101, 115, 115, 97, 103, 101], [109, 105, 120, 101, 100], [109, 111, 100], [109, 111, 100, 105, 102, 105, 101, 115], [109, 111, 100, 117, 108, 101], [109, 111, 100, 117, 108, 101, 112, 97, 114], [109, 116, 99], [110, 111, 98, 108, 111, 99, 107], [110, 111, 110, 101], [110, 111, 116], [110, 111, 116, 52, 98], [110, 111, 119, 97, 105, 116], [110, 117, 108, 108], [111, 98, 106, 105, 100], [111, 99, 116, 101, 116, 115, 116, 114, 105, 110, 103], [111, 102], [111, 109, 105, 116], [111, 110], [111, 112, 116, 105, 111, 110, 97, 108], [111, 114], [111, 114, 52, 98], [111, 117, 116], [111, 118, 101, 114, 114, 105, 100, 101], [112, 97, 114, 97, 109], [112, 97, 115, 115], [112, 97, 116, 116, 101, 114, 110], [112, 101, 114, 109, 117, 116, 97, 116, 105, 111, 110], [112, 111, 114, 116], [112, 114, 101, 115, 101, 110, 116], [112, 114, 105, 118, 97, 116, 101], [112, 114, 111, 99, 101, 100, 117, 114, 101], [112, 117, 98, 108, 105, 99], [114, 97, 105, 115, 101], [114, 101, 97, 100], [114, 101, 99, 101, 105, 118, 101], [114, 101, 99, 111, 114, 100], [114, 101, 99, 117, 114, 115, 105, 118, 101], [114, 101, 109], [114, 101, 112, 101, 97, 116], [114, 101, 112, 108, 121], [114, 101, 116, 117, 114, 110], [114, 117, 110, 110, 105, 110, 103], [114, 117, 110, 115], [115, 101, 108, 101, 99, 116], [115, 101, 108, 102], [115, 101, 110, 100], [115, 101, 110, 100, 101, 114], [115, 101, 116], [115, 101, 116, 118, 101, 114, 100, 105, 99, 116], [115, 105, 103, 110, 97, 116, 117, 114, 101], [115, 116, 97, 114, 116], [115, 116, 111, 112], [115, 117, 98, 115, 101, 116], [115, 117, 112, 101, 114, 115, 101, 116], [115, 121, 115, 116, 101, 109], [116, 101, 109, 112, 108, 97, 116, 101], [116, 101, 115, 116, 99, 97, 115, 101], [116, 105, 109, 101, 111, 117, 116], [116, 105, 109, 101, 114], [116, 111], [116, 114, 105, 103, 103, 101, 114], [116, 114, 117, 101], [116, 121, 112, 101], [117, 110, 105, 111, 110], [117, 110, 105, 118, 101, 114, 115, 97, 108], [117, 110, 109, 97, 112], [118, 97, 108, 117, 101], [118, 97, 108, 117, 101, 111, 102], [118, 97, 114], [118, 97, 114, 105, 97, 110, 116], [118, 101, 114, 100, 105, 99, 116, 116, 121, 112, 101], [119, 104, 105, 108, 101], [119, 105, 116, 104], [120, 111, 114], [120, 111, 114, 52, 98]]
def asnS : List (List UInt8) := [[58, 58, 61], [46, 46], [46, 46, 46], [91, 91], [93, 93], [123], [125], [40], [41], [91], [93], [44], [59], [58], [46], [124], [94], [60], [38], [64], [45], [61], [33], [42]]
def ttcnS : List (List UInt8) := [[58, 61], [46, 46], [45, 62], [61, 62], [61, 61], [33, 61], [60, 61], [62, 61], [60, 60], [62, 62], [123], [125], [40], [41], [91], [93], [44], [59], [58], [46], [63], [42], [43], [45], [47], [38], [60], [62], [64], [33], [124]]

def wordsOf (lang : Int) : List (List UInt8) := if lang = 0 then asnW else ttcnW
def symsOf (lang : Int) : List (List UInt8) := if lang = 0 then asnS else ttcnS
def isWord (lang : Int) (w : List UInt8) : Bool := decide (w ∈ wordsOf lang)
def isSym (lang : Int) (w : List UInt8) : Bool := decide (w ∈ symsOf lang)

/-- Does what begins here belong to the name that goes on before it? -/
def wordCont (lang : Int) : List UInt8 → Bool
  | [] => false
  | c :: t => isPart c || (if lang = 1 then decide (c.toNat = 95) else (decide (c.toNat = 45) && (match t with | [] => false | d :: _ => isPart d)))
def wordTail (lang : Int) : List UInt8 → Nat
  | [] => 0
  | c :: t => if wordCont lang (c :: t) = true then wordTail lang t + 1 else 0
def wordLen (lang : Int) (l : List UInt8) : Nat := wordTail lang (l.drop 1) + 1

/-- The first place of a mark, if it stands before the end of the line and any tab. -/
def closeAt (m : Nat) : List UInt8 → Option Nat
  | [] => none
  | c :: t => if c.toNat = m then some 0 else if c.toNat = 10 ∨ c.toNat = 9 then none else (closeAt m t).map (· + 1)

/-- How many characters belong to a string behind its first quotation mark. -/
def charsEnd : List UInt8 → Option Nat
  | [] => none
  | [c] => if c.toNat = 34 then some 1 else none
  | c :: d :: t => if c.toNat = 34 then (if d.toNat = 34 then (charsEnd t).map (· + 2) else some 1) else if c.toNat = 10 ∨ c.toNat = 9 then none else (charsEnd (d :: t)).map (· + 1)

/-- How many characters there are to the end of enclosed comments. -/
def encl (nested : Bool) : Nat → List UInt8 → Option Nat
  | _, [] => none
  | _, [_] => none
  | d, c :: e :: t =>
    if c.toNat = 42 ∧ e.toNat = 47 then (if d ≤ 1 then some 2 else (encl nested (d - 1) t).map (· + 2))
    else if nested = true ∧ c.toNat = 47 ∧ e.toNat = 42 then (encl nested (d + 1) t).map (· + 2)
    else (encl nested d (e :: t)).map (· + 1)

/-- How many characters belong to a comment that ends with its line, behind its mark. -/
def lineTail (asn : Bool) : List UInt8 → Nat
  | [] => 0
  | c :: t => if c.toNat = 10 then 0 else if asn = true ∧ c.toNat = 45 ∧ t.head? = some 45 then 2 else lineTail asn t + 1

def lineMark (lang : Int) : List UInt8 := if lang = 0 then [45, 45] else [47, 47]
def begins (lang : Int) (l : List UInt8) : Bool := [47, 42].isPrefixOf l || (lineMark lang).isPrefixOf l
def commentLen (lang : Int) (l : List UInt8) : Option Nat :=
  if [47, 42].isPrefixOf l = true then (encl (decide (lang = 0)) 1 (l.drop 2)).map (· + 2) else some (lineTail (decide (lang = 0)) (l.drop 2) + 2)

def numTail : List UInt8 → Nat
  | [] => 0
  | c :: t => if isDigit c = true then numTail t + 1 else 0
def numLen (l : List UInt8) : Nat := numTail (l.drop 1) + 1
def decVal (l : List UInt8) : Nat := l.foldl (fun n c => 10 * n + (c.toNat - 48)) 0
def maxInteger : Nat := 1152921504606846976

/-- A piece: its kind, how long it is, and the error. -/
structure P1 where
  kind : Int
  len : Nat
  err : Int

def wordPiece (lang : Int) (l : List UInt8) : P1 :=
  if 32 < wordLen lang l then ⟨0, 0, 7⟩ else if isWord lang (l.take (wordLen lang l)) = true then ⟨1, wordLen lang l, 0⟩ else ⟨0, wordLen lang l, 0⟩
def numberPiece (l : List UInt8) : P1 :=
  if l.head? = some 48 ∧ 1 < numLen l then ⟨0, 0, 8⟩ else if maxInteger < decVal (l.take (numLen l)) then ⟨0, 0, 3⟩ else ⟨2, numLen l, 0⟩
def charsPiece (l : List UInt8) : P1 :=
  match charsEnd (l.drop 1) with
  | none => ⟨0, 0, 39⟩
  | some n => if 201 < n then ⟨0, 0, 2⟩ else ⟨3, n + 1, 0⟩
def digitsKind (lang : Int) (ds behind : List UInt8) : Int :=
  if behind.head? = some 66 ∧ ds.all isBit = true then 4
  else if lang = 0 ∧ behind.head? = some 72 ∧ ds.all isHexa = true then 5
  else if lang = 1 ∧ behind.head? = some 79 ∧ ds.all isHexa = true ∧ ds.length % 2 = 0 then 5 else -1
def digitsPiece (lang : Int) (l : List UInt8) : P1 :=
  match closeAt 39 (l.drop 1) with
  | none => ⟨0, 0, 39⟩
  | some n => if 200 < n then ⟨0, 0, 2⟩ else if digitsKind lang ((l.drop 1).take n) (l.drop (n + 2)) = -1 then ⟨0, 0, 8⟩ else ⟨digitsKind lang ((l.drop 1).take n) (l.drop (n + 2)), n + 3, 0⟩
def symLen (lang : Int) (l : List UInt8) : Nat :=
  if 3 ≤ l.length ∧ isSym lang (l.take 3) = true then 3 else if 2 ≤ l.length ∧ isSym lang (l.take 2) = true then 2 else if 1 ≤ l.length ∧ isSym lang (l.take 1) = true then 1 else 0
def symbolPiece (lang : Int) (l : List UInt8) : P1 := if symLen lang l = 0 then ⟨0, 0, 8⟩ else ⟨6, symLen lang l, 0⟩

/-- What begins here. -/
def pieceOf (lang : Int) : List UInt8 → P1
  | [] => ⟨0, 0, 0⟩
  | c :: t =>
    if isSpace c = true then ⟨7, 1, 0⟩
    else if begins lang (c :: t) = true then (match commentLen lang (c :: t) with | some n => ⟨8, n, 0⟩ | none => ⟨8, 0, 39⟩)
    else if isLetter c = true then wordPiece lang (c :: t)
    else if isDigit c = true then numberPiece (c :: t)
    else if c.toNat = 34 then charsPiece (c :: t)
    else if c.toNat = 39 then digitsPiece lang (c :: t)
    else symbolPiece lang (c :: t)

/-- A piece at its place. -/
structure Pc where
  kind : Int
  fr : Nat
  to : Nat

/-- The pieces of a text from a place on (till one has an error), and the place and error of that one. -/
def pieces (lang : Int) : Nat → List UInt8 → Nat → List Pc
  | 0, _, _ => []
  | _ + 1, [], _ => []
  | f + 1, c :: t, at_ => if (pieceOf lang (c :: t)).err ≠ 0 then [] else ⟨(pieceOf lang (c :: t)).kind, at_, at_ + (pieceOf lang (c :: t)).len⟩ :: pieces lang f ((c :: t).drop (pieceOf lang (c :: t)).len) (at_ + (pieceOf lang (c :: t)).len)
def pieceErr (lang : Int) : Nat → List UInt8 → Nat → Option (Nat × Int)
  | 0, _, _ => none
  | _ + 1, [], _ => none
  | f + 1, c :: t, at_ => if (pieceOf lang (c :: t)).err ≠ 0 then some (at_, (pieceOf lang (c :: t)).err) else pieceErr lang f ((c :: t).drop (pieceOf lang (c :: t)).len) (at_ + (pieceOf lang (c :: t)).len)

/-- The first character that is not permitted. -/
def badAt : List UInt8 → Option Nat
  | [] => none
  | c :: t => if isPermitted c = true then (badAt t).map (· + 1) else some 0

def isTok (p : Pc) : Bool := decide (p.kind < 7)
def tokPcs (lang : Int) (l : List UInt8) : List Pc := (pieces lang l.length l 0).filter isTok
def comPcs (lang : Int) (l : List UInt8) : List Pc := (pieces lang l.length l 0).filter (fun p => decide (p.kind = 8))

/-- The place and the error of reading a text; (0, 0) if there is none. -/
def readErr (lang : Int) (l : List UInt8) : Nat × Int :=
  if ¬ (lang = 0 ∨ lang = 1) then (0, 4)
  else if 8000 < l.length then (0, 2)
  else match badAt l with
    | some i => (i, 5)
    | none => match pieceErr lang l.length l 0 with
      | some e => e
      | none => if 1500 < (tokPcs lang l).length then (0, 2) else (0, 0)

/-- A token: kind, text, place. -/
structure Tok where
  kind : Int
  text : List UInt8
  pos : Int
def tokOf (l : List UInt8) (p : Pc) : Tok := ⟨p.kind, (l.drop p.fr).take (p.to - p.fr), p.fr⟩
def toks (lang : Int) (l : List UInt8) : List Tok := (tokPcs lang l).map (tokOf l)
end Go.Proofs.YtfmpcchlpplanaaGreatDoor
namespace Go.Proofs.YtfmpcchlpplanaaGreatDoor
/-- A list of words as one text: a blank before, between and behind them. -/
def listT (ws : List (List UInt8)) : List UInt8 := 32 :: ws.flatMap (· ++ [32])
end Go.Proofs.YtfmpcchlpplanaaGreatDoor
