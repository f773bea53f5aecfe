/-
  Plain mathematics on replies, with no program in sight: what a reply is, its bytes, and how they are read again.
-/
import Derived.Test.YtoalnfkjpdgbiaaDoorWords
import Derived.Lib.ItoaNum
namespace Go.Proofs.YtoalnfkjpdgbiaaDoor
set_option linter.unusedVariables false
namespace Rp
/-- a reply with at most n replies in one another: its kind, text, number and list -/
@[reducible] def T : Nat → Type
  | 0 => Empty
  | n + 1 => Int × ByteArray × Int × List (T n)
def mk {n : Nat} (k : Int) (s : ByteArray) (i : Int) (l : List (T n)) : T (n + 1) := (k, s, i, l)
def kd {n : Nat} (r : T (n + 1)) : Int := r.1
def tx {n : Nat} (r : T (n + 1)) : ByteArray := r.2.1
def nm {n : Nat} (r : T (n + 1)) : Int := r.2.2.1
def ls {n : Nat} (r : T (n + 1)) : List (T n) := r.2.2.2
def crlf : List UInt8 := [13, 10]
def bytesOf (s : ByteArray) : List UInt8 := s.data.toList
/-- a reply's bytes: e tells those of the replies in it -/
def encW {α : Type} (e : α → List UInt8) (k : Int) (s : ByteArray) (i : Int) (l : List α) : List UInt8 :=
  if k = 1 then 43 :: (bytesOf s ++ crlf)
  else if k = 2 then 45 :: (bytesOf s ++ crlf)
  else if k = 3 then 58 :: (Lib.itoa i ++ crlf)
  else if k = 4 then 36 :: (Lib.itoa s.size ++ crlf ++ bytesOf s ++ crlf)
  else if k = 5 then 36 :: ([45, 49] ++ crlf)
  else if k = 7 then 42 :: ([45, 49] ++ crlf)
  else 42 :: (Lib.itoa l.length ++ crlf ++ l.flatMap e)
def enc : (n : Nat) → T n → List UInt8
  | 0 => fun r => nomatch r
  | n + 1 => fun r => encW (enc n) (kd r) (tx r) (nm r) (ls r)
/-- neither CR nor LF -/
def clean (l : List UInt8) : Bool := l.all fun c => c != 13 && c != 10
/-- a reply alone is as it should be -/
def wellW {α : Type} (k : Int) (s : ByteArray) (i : Int) (l : List α) : Bool :=
  if k = 1 ∨ k = 2 then i == 0 && l.isEmpty && clean (bytesOf s)
  else if k = 3 then s.size == 0 && l.isEmpty
  else if k = 4 then i == 0 && l.isEmpty
  else if k = 6 then s.size == 0 && i == 0
  else if k = 5 ∨ k = 7 then s.size == 0 && i == 0 && l.isEmpty
  else false
/-- so are all in it -/
def right : (n : Nat) → T n → Bool
  | 0 => fun r => nomatch r
  | n + 1 => fun r => wellW (kd r) (tx r) (nm r) (ls r) && (ls r).all (right n)
/-- is there an array within d others? (any lists count) -/
def deep : (n : Nat) → Nat → T n → Bool
  | 0, _ => fun r => nomatch r
  | n + 1, d => fun r => (kd r == 6 && d == 0) || (ls r).any (deep n (d - 1))
/-- the line ahead, and what stands behind it -/
def lineF : List UInt8 → Except Int (List UInt8 × List UInt8)
  | [] => .error 5
  | c :: r =>
    if c = 10 then .error 160
    else if c = 13 then (match r with
      | [] => .error 5
      | d :: r' => if d = 10 then .ok ([], r') else .error 160)
    else (match lineF r with
      | .error e => .error e
      | .ok (a, b) => .ok (c :: a, b))
def kindF (c : UInt8) : Int := if c = 43 then 1 else if c = 45 then 2 else if c = 58 then 3 else if c = 36 then 4 else if c = 42 then 6 else 0
def cntF (s : List UInt8) : Except Int Nat :=
  if Pl.ic s = 0 ∧ 0 ≤ Pl.iv s then (if Pl.iv s ≤ 16777216 then .ok (Pl.iv s).toNat else .error 2) else .error 160
def ofL (l : List UInt8) : ByteArray := ⟨l.toArray⟩
theorem ofL_bytes (l : List UInt8) : bytesOf (ofL l) = l := rfl
theorem ofL_of (s : ByteArray) : ofL (bytesOf s) = s := rfl
theorem ofL_size (l : List UInt8) : (ofL l).size = l.length := rfl
theorem bytes_len (s : ByteArray) : (bytesOf s).length = s.size := rfl
/-- a reply's text of so many bytes, and its line's end -/
def bulkF {α : Type} (s r : List UInt8) : Except Int ((Int × ByteArray × Int × List α) × List UInt8) :=
  if s = [45, 49] then .ok ((5, .empty, 0, []), r)
  else match cntF s with
    | .error e => .error e
    | .ok m => if r.length < m + 2 then .error 5 else if (r.drop m).take 2 = crlf then .ok ((4, ofL (r.take m), 0, []), r.drop (m + 2)) else .error 160
def many {α : Type} (d : List UInt8 → Except Int (α × List UInt8)) : Nat → List UInt8 → Except Int (List α × List UInt8)
  | 0, b => .ok ([], b)
  | k + 1, b => match d b with
    | .error e => .error e
    | .ok (x, b1) => match many d k b1 with
      | .error e => .error e
      | .ok (xs, b2) => .ok (x :: xs, b2)
def arrF {α : Type} (deeper : Nat → List UInt8 → Except Int (List α × List UInt8)) (s r : List UInt8) : Except Int ((Int × ByteArray × Int × List α) × List UInt8) :=
  if s = [45, 49] then .ok ((7, .empty, 0, []), r)
  else match cntF s with
    | .error e => .error e
    | .ok m => match deeper m r with
      | .error e => .error e
      | .ok (l, r') => .ok ((6, .empty, 0, l), r')
def lineK {α : Type} (deeper : Nat → List UInt8 → Except Int (List α × List UInt8)) (k : Int) (s r : List UInt8) : Except Int ((Int × ByteArray × Int × List α) × List UInt8) :=
  if k = 3 then (if Pl.ic s = 0 then .ok ((3, .empty, Pl.iv s, []), r) else .error 160)
  else if k = 4 then bulkF s r
  else if k = 6 then arrF deeper s r
  else .ok ((k, ofL s, 0, []), r)
def decW {α : Type} (deeper : Nat → List UInt8 → Except Int (List α × List UInt8)) : List UInt8 → Except Int ((Int × ByteArray × Int × List α) × List UInt8)
  | [] => .error 5
  | c :: r =>
    if kindF c = 0 then .error 160
    else match lineF r with
      | .error e => .error e
      | .ok (s, r') => lineK deeper (kindF c) s r'
/-- what is read at the head of bytes, n arrays may still be within one another -/
def dec : (n : Nat) → List UInt8 → Except Int (T (n + 1) × List UInt8)
  | 0 => decW (fun _ _ => .error 161)
  | n + 1 => decW (many (dec n))
/-- as deep as n more arrays, and written in at most 2^24 bytes each part -/
def fit : (n : Nat) → T (n + 1) → Bool
  | 0 => fun r => decide (kd r ≠ 6) && decide ((tx r).size ≤ 16777216)
  | n + 1 => fun r => decide ((tx r).size ≤ 16777216) && decide ((ls r).length ≤ 16777216) && (ls r).all (fit n)
end Rp
end Go.Proofs.YtoalnfkjpdgbiaaDoor
