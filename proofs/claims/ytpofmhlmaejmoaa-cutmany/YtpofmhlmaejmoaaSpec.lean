/-
  What run.Check answers, by the states of messages: plain.
-/
import Derived.Test.YtpofmhlmaejmoaaWords
namespace Go.Proofs.Ytpofmhlmaejmoaa
open Go.RowKit Go.Maps

/-- What advance answers. -/
def advCode (f : Int → Int) (m a : Int) : Int := if m < 0 ∨ 20 < m then 4 else if f m = a then 0 else 3
/-- What the states are behind it. -/
def advMap (f : Int → Int) (m a b : Int) : Int → Int := if (0 ≤ m ∧ m ≤ 20) ∧ f m = a then put f m b else f

def admCode (n : Int) (f : Int → Int) (e : Ev) : Int :=
  if e.p < 0 ∨ n ≤ e.p then 2 else if e.k = 1 then 0 else if e.k = 2 then advCode f e.m 0 else if e.k = 3 then advCode f e.m 1 else 6
def admMap (n : Int) (f : Int → Int) (e : Ev) : Int → Int :=
  if e.p < 0 ∨ n ≤ e.p then f else if e.k = 1 then f else if e.k = 2 then advMap f e.m 0 1 else if e.k = 3 then advMap f e.m 1 2 else f

def runCode (n : Int) : List Ev → (Int → Int) → Int
  | [], _ => 0
  | e :: r, f => if admCode n f e = 0 then runCode n r (admMap n f e) else admCode n f e

def checkCode (n : Int) (l : List Ev) : Int := if n < 1 ∨ 6 < n ∨ 30 < l.length then 1 else runCode n l (fun _ => 0)

theorem runCode_drop (n : Int) (l : List Ev) (k : Nat) (f : Int → Int) (h : k < l.length) :
    runCode n (l.drop k) f = if admCode n f l[k] = 0 then runCode n (l.drop (k + 1)) (admMap n f l[k]) else admCode n f l[k] := by
  rw [List.drop_eq_getElem_cons h]; rfl

end Go.Proofs.Ytpofmhlmaejmoaa
