/-
  The document's parser of rules, over tokens, as plain functions: where it stands, why no more can be read, and where; what it reads.
  No condition.
-/
import Derived.Test.YthdjkagodccdbaaM12
import Derived.Test.YthdjkagodccdbaaM18
namespace Go.Proofs.Ythdjkagodccdbaa
open Go.RowKit

/-- A reader: at which token it is; why no more can be read, and where. -/
structure Rst where
  i : Nat
  why : Int
  pos : Int
def nowR (ls : List Tok) (s : Rst) : Tok := ls.getD s.i noT
def failR (s : Rst) (why pos : Int) : Rst := if s.why = 0 then { s with why := why, pos := pos } else s
def isR (ls : List Tok) (s : Rst) (t : List UInt8) : Bool := decide (s.why = 0) && (decide ((nowR ls s).k = 1) || decide ((nowR ls s).k = 3)) && decide ((nowR ls s).t.data.toList = t)
def stepR (ls : List Tok) (s : Rst) : Rst := if s.i + 1 < ls.length then { s with i := s.i + 1 } else s
def takeR (ls : List Tok) (s : Rst) (t : List UInt8) : Rst := if isR ls s t = true then stepR ls s else s
def mustR (ls : List Tok) (s : Rst) (t : List UInt8) : Rst := if isR ls s t = true then stepR ls s else failR s 7 (nowR ls s).a
def nmB (x : Tok) : Bool := decide (x.k = 1) && nameR x.t.data.toList && !resB x.t.data.toList
def namedR (ls : List Tok) (s : Rst) : Bool := decide (s.why = 0) && nmB (nowR ls s)
def nmV (ls : List Tok) (s : Rst) : ByteArray := if namedR ls s = true then (nowR ls s).t else ⟨#[]⟩
def nmS (ls : List Tok) (s : Rst) : Rst := if namedR ls s = true then stepR ls s else failR s 7 (nowR ls s).a

/-! ### words and signs -/
def wDeny : List UInt8 := [100, 101, 110, 121]
def wView : List UInt8 := [118, 105, 101, 119]
def wQuota : List UInt8 := [113, 117, 111, 116, 97]
def wLimit : List UInt8 := [108, 105, 109, 105, 116]
def wIf : List UInt8 := [105, 102]
def wNot : List UInt8 := [110, 111, 116]
def wOpen : List UInt8 := [40]
def wShut : List UInt8 := [41]
def wComma : List UInt8 := [44]
def wAny : List UInt8 := [95]
def aggW : List (List UInt8) := [[], [99, 111, 117, 110, 116], [115, 117, 109], [108, 101, 97, 115, 116], [109, 111, 115, 116]]

/-! ### terms, literals, rules -/
structure TmP where
  s : ByteArray
  a : Bool
  v : V
structure LiP where
  n : Bool
  s : ByteArray
  args : List TmP
  o : Int
structure RuP where
  k : Int
  nm : ByteArray
  head : List ByteArray
  ag : Int
  ofv : ByteArray
  lim : Int
  body : List LiP
def noRu : RuP := ⟨0, ⟨#[]⟩, [], 0, ⟨#[]⟩, 0, []⟩
def anyT : TmP := ⟨⟨#[]⟩, true, noV⟩

/-- Which aggregate the token is; 0: none. -/
def aggJ (ls : List Tok) (s : Rst) : Nat := if isR ls s [99, 111, 117, 110, 116] = true then 1 else if isR ls s [115, 117, 109] = true then 2 else if isR ls s [108, 101, 97, 115, 116] = true then 3 else if isR ls s [109, 111, 115, 116] = true then 4 else 0
def aggBad (k : Int) (j : Nat) : Bool := decide (k = 1) || (decide (k = 3) && decide (2 < j))
/-- The reader behind an aggregate; the aggregate; of what it is. -/
def agS (ls : List Tok) (s : Rst) (k : Int) : Rst := if aggJ ls s = 0 then s else if aggBad k (aggJ ls s) = true then failR s 7 (nowR ls s).a else if 1 < aggJ ls s then nmS ls (stepR ls s) else stepR ls s
def agA (ls : List Tok) (s : Rst) (k ag : Int) : Int := if aggJ ls s = 0 then ag else if aggBad k (aggJ ls s) = true then ag else (aggJ ls s : Int)
def agO (ls : List Tok) (s : Rst) (k : Int) (ofv : ByteArray) : ByteArray := if aggJ ls s = 0 then ofv else if aggBad k (aggJ ls s) = true then ofv else if 1 < aggJ ls s then nmV ls (stepR ls s) else ofv

/-- A rule's head as it is read: names, aggregate, of; the reader. -/
structure HdP where
  h : List ByteArray
  ag : Int
  ofv : ByteArray
  s : Rst
def hdF (ls : List Tok) (k : Int) : Nat → HdP → HdP
  | 0, x => x
  | f + 1, x => if x.s.why = 0 then
      (if aggJ ls x.s ≠ 0 then ⟨x.h, agA ls x.s k x.ag, agO ls x.s k x.ofv, agS ls x.s k⟩ else
        let s1 := nmS ls x.s
        let s2 := if 40 ≤ x.h.length then failR s1 9 (nowR ls x.s).a else s1
        let h2 := x.h ++ [nmV ls x.s]
        if isR ls s2 wComma = true then hdF ls k f ⟨h2, x.ag, x.ofv, stepR ls s2⟩ else ⟨h2, x.ag, x.ofv, s2⟩)
    else x
def hdQ (ls : List Tok) (s : Rst) : HdP :=
  let s2 := mustR ls (nmS ls s) wComma
  ⟨[nmV ls s], agA ls s2 3 0, agO ls s2 3 ⟨#[]⟩, if aggJ ls s2 = 0 then failR s2 7 (nowR ls s2).a else agS ls s2 3⟩
def hdR (ls : List Tok) (s : Rst) (k : Int) : HdP := if k = 3 then hdQ ls s else hdF ls k 400 ⟨[], 0, ⟨#[]⟩, s⟩

def conB (ls : List Tok) (s : Rst) : Bool := decide (s.why = 0) && decide ((nowR ls s).k = 2)
def tmV (ls : List Tok) (s : Rst) : TmP := if conB ls s = true then ⟨⟨#[]⟩, false, (nowR ls s).v⟩ else ⟨nmV ls s, false, noV⟩
def tmS (ls : List Tok) (s : Rst) : Rst := if conB ls s = true then stepR ls s else nmS ls s
/-- An arg. -/
def arV (ls : List Tok) (s : Rst) : TmP := if isR ls s wAny = true then anyT else tmV ls s
def arS (ls : List Tok) (s : Rst) : Rst := if isR ls s wAny = true then stepR ls s else tmS ls s
def asF (ls : List Tok) : Nat → List TmP → Rst → List TmP × Rst
  | 0, l, s => (l, s)
  | f + 1, l, s => if s.why = 0 then
      (let s1 := if 40 ≤ l.length then failR (arS ls s) 9 (nowR ls s).a else arS ls s
       if isR ls s1 wComma = true then asF ls f (l ++ [arV ls s]) (stepR ls s1) else (l ++ [arV ls s], mustR ls s1 wShut))
    else (l, s)
def asR (ls : List Tok) (s : Rst) : List TmP × Rst := if isR ls s wShut = true then ([], stepR ls s) else asF ls 400 [] s

/-- Is what follows a bracket? -/
def brB (ls : List Tok) (s : Rst) : Bool := decide (s.i + 1 < ls.length) && (decide ((ls.getD (s.i + 1) noT).k = 3) && decide ((ls.getD (s.i + 1) noT).t.data.toList = wOpen))
/-- An atom behind not, or none. -/
def atR (ls : List Tok) (n : Bool) (m : Nat) (s : Rst) : LiP × Rst :=
  let s2 := mustR ls (nmS ls s) wOpen
  let s3 := if n = false ∧ 6 ≤ m then failR s2 9 (nowR ls s).a else s2
  (⟨n, nmV ls s, (asR ls s3).1, 0⟩, (asR ls s3).2)
/-- A comparison. -/
def opT (x : Tok) : Int := opF x.t.data.toList
def cmR (ls : List Tok) (n : Bool) (s : Rst) : LiP × Rst :=
  let s1 := if n = true then failR s 7 (nowR ls s).a else s
  let s2 := tmS ls s1
  let s3 := if (nowR ls s2).k ≠ 3 ∨ opT (nowR ls s2) = 0 then failR s2 7 (nowR ls s2).a else s2
  let s4 := stepR ls s3
  (⟨n, ⟨#[]⟩, [tmV ls s1, tmV ls s4], opT (nowR ls s2)⟩, tmS ls s4)
def liR (ls : List Tok) (m : Nat) (s : Rst) : LiP × Rst :=
  let n := isR ls s wNot
  let s1 := takeR ls s wNot
  if (namedR ls s1 && (n || brB ls s1)) = true then atR ls n m s1 else cmR ls n s1
def loR (ls : List Tok) (s : Rst) (at' : Int) : Rst :=
  failR (if (isR ls s wNot || (namedR ls s || decide ((nowR ls s).k = 2))) = true then failR s 9 at' else s) 7 at'
def atomB (x : LiP) : Bool := decide (x.o = 0) && !x.n
def boF (ls : List Tok) : Nat → Nat → List LiP → Rst → List LiP × Rst
  | 0, _, l, s => (l, s)
  | f + 1, m, l, s => if s.why = 0 then
      (let s1 := if 10 ≤ l.length then loR ls s (nowR ls s).a else s
       let x := liR ls m s1
       if isR ls x.2 wComma = true then boF ls f (if atomB x.1 = true then m + 1 else m) (l ++ [x.1]) (stepR ls x.2) else (l ++ [x.1], x.2))
    else (l, s)

/-- The kind that a rule's first word tells. -/
def kiK (ls : List Tok) (s : Rst) : Int := if isR ls s wDeny = true then 1 else if isR ls s wView = true then 2 else if isR ls s wQuota = true then 3 else 0
def kiS (ls : List Tok) (s : Rst) : Rst := if kiK ls s = 0 then failR s 7 (nowR ls s).a else stepR ls s
/-- A quota's limit. -/
def limS (ls : List Tok) (s : Rst) : Rst :=
  let s1 := mustR ls s wLimit
  stepR ls (if s1.why = 0 ∧ ((nowR ls s1).k ≠ 2 ∨ (nowR ls s1).v.k ≠ 2) then failR s1 7 (nowR ls s1).a else s1)
def limV (ls : List Tok) (s : Rst) : Int := (nowR ls (mustR ls s wLimit)).v.n
/-- The rule that tokens are, and the reader behind it. -/
def ruX (ls : List Tok) : RuP × Rst :=
  let s0 : Rst := ⟨0, 0, 0⟩
  let k := kiK ls s0
  let s1 := kiS ls s0
  let s2 := mustR ls (nmS ls s1) wOpen
  let h := hdR ls s2 k
  let s3 := mustR ls h.s wShut
  let s4 := if k = 3 then limS ls s3 else s3
  let b := boF ls 400 0 [] (mustR ls s4 wIf)
  (⟨k, nmV ls s1, h.h, h.ag, h.ofv, if k = 3 then limV ls s3 else 0, b.1⟩, if (nowR ls b.2).k ≠ 4 then failR b.2 7 (nowR ls b.2).a else b.2)
/-- The rule that a text is; where, and why, it is none. -/
def ruleR (l : List UInt8) : RuP × Int × Int :=
  if (lexR l).2.2 ≠ 0 then (noRu, (lexR l).2.1, (lexR l).2.2)
  else if (ruX (lexR l).1).2.why = 0 then ((ruX (lexR l).1).1, 0, 0) else (noRu, (ruX (lexR l).1).2.pos, (ruX (lexR l).1).2.why)

/-! ### a reader's place -/
theorem failR_i (s : Rst) (a b : Int) : (failR s a b).i = s.i := by unfold failR; split <;> rfl
theorem stepR_i (ls : List Tok) (s : Rst) (h : s.i < ls.length) : (stepR ls s).i < ls.length := by
  unfold stepR
  split
  · assumption
  · exact h
theorem stepR_why (ls : List Tok) (s : Rst) : (stepR ls s).why = s.why ∧ (stepR ls s).pos = s.pos := by unfold stepR; split <;> exact ⟨rfl, rfl⟩
theorem nowR_at {ls : List Tok} {s : Rst} (h : s.i < ls.length) : ls[s.i]? = some (nowR ls s) := by
  unfold nowR
  rw [List.getD_eq_getElem?_getD, List.getElem?_eq_getElem h]
  rfl
end Go.Proofs.Ythdjkagodccdbaa
