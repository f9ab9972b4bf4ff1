import Derived.Test.YtglnefffkcillaaWcY
namespace Go.Proofs.Ytglnefffkcillaa
set_option linter.unusedVariables false
set_option linter.unusedSimpArgs false

/-! ### lists of natural numbers, for the kernel to reckon with -/
def llN (C : List Nat → List Nat) : Nat → List (List Nat)
  | 0 => [[]]
  | k + 1 => (llN C k).flatMap (fun L => (C L).map (fun x => L ++ [x]))
def selfN (n : Nat) (L : List Nat) : List Nat := (List.range (2 ^ n)).filter (fun x => Nat.testBit x L.length)
def dgLN (n m : Nat) : List Nat := (List.range n).map (dgN n m)
def ftN (n m : Nat) : Bool := (List.range n).all (fun i => Nat.testBit (dgN n m i) i)
def inN (x y : Nat) : Bool := Nat.land x y == x
def okN (n : Nat) (P : List Nat) : Bool := (List.range n).all fun b => (List.range n).all fun a => (!(decide (a < b)) || !(Nat.testBit (P.getD b 0) a && Nat.testBit (P.getD a 0) b)) && (!Nat.testBit (P.getD b 0) a || inN (P.getD a 0) (P.getD b 0))
def wlN (n : Nat) : List (List Nat) := (llN (selfN n) n).filter (okN n)


def otherN (P : List Nat) (L : List Nat) : List Nat := P.filter (fun x => !L.contains x)
def sN (g : Nat → Bool) : Nat → Nat
  | 0 => 0
  | k + 1 => if g k then sN g k + 2 ^ k else sN g k
def amN (P : List Nat) : List Nat := P.map (fun y => sN (fun b => inN (P.getD b 0) y) P.length)
def lessN : List Nat → List Nat → Bool
  | a :: xs, b :: ys => if a < b then true else if b < a then false else lessN xs ys
  | _, _ => false
def stepN (m x : List Nat) : List Nat := if lessN x m then x else m
def shN (P : List Nat) : List Nat := ((llN (otherN P) P.length).map amN).foldl stepN P
/-- the model's: where the parts of a thing come to -/
def rnKN (P o : List Nat) (a : Nat) : Nat → Nat
  | 0 => 0
  | b + 1 => if Nat.testBit (P.getD a 0) b then Nat.lor (rnKN P o a b) (2 ^ o.getD b 0) else rnKN P o a b
def rnFN (P o : List Nat) (n : Nat) : Nat → Nat → Nat
  | 0 => fun _ => 0
  | a + 1 => fun i => if i = o.getD a 0 then rnKN P o a n else rnFN P o n a i
def rnLN (n : Nat) (P o : List Nat) : List Nat := (List.range n).map (rnFN P o n n)
def stSN (m x : List Nat) : List Nat := if m.length = 0 then x else stepN m x
def shSN (n : Nat) (P : List Nat) : List Nat := ((llN (otherN (List.range n)) n).map (rnLN n P)).foldl stSN []

set_option maxRecDepth 1000000 in
theorem digits_4 : ((List.range (2 ^ (4 * 4))).filter (ftN 4)).map (dgLN 4) = llN (selfN 4) 4 := by decide +kernel
set_option maxRecDepth 1000000 in
theorem digits_nat (n : Nat) (h1 : 1 ≤ n) (h4 : n ≤ 4) : ((List.range (2 ^ (n * n))).filter (ftN n)).map (dgLN n) = llN (selfN n) n := by
  have hc : n = 1 ∨ n = 2 ∨ n = 3 ∨ n = 4 := by omega
  rcases hc with rfl | rfl | rfl | rfl
  · decide +kernel
  · decide +kernel
  · decide +kernel
  · exact digits_4

theorem wlN_4 : (wlN 4).length = 219 := by decide +kernel
end Go.Proofs.Ytglnefffkcillaa
