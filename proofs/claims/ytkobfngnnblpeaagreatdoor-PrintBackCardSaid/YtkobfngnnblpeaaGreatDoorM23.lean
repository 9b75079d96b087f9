/-
  The document's parser of rules, over tokens, as plain functions: where it stands, why no more can be read, and where; what it reads.
  No condition.
  The program's parser of rules, over the tokens that are left, as plain functions; what tokens a text can have.
  No condition.
-/
import Derived.KernelRfl
import Derived.Test.YtkobfngnnblpeaaGreatDoorM15
import Derived.Test.YtkobfngnnblpeaaGreatDoorM22
namespace Go.Proofs.YtkobfngnnblpeaaGreatDoor
section
open Go.RowKit

/-- A reader: at which token it is; why no more can be read, and where. -/
structure Rst where
  i : Nat
  why : Int
  pos : Int
def nowR (ls : List Tok) (s : Rst) : Tok := ls.getD s.i noT
def failR (s : Rst) (why pos : Int) : Rst := if s.why = 0 then { s with why := why, pos := pos } else s
def isR (ls : List Tok) (s : Rst) (t : List UInt8) : Bool := decide (s.why = 0) && (decide ((nowR ls s).k = 1) || decide ((nowR ls s).k = 3)) && decide ((nowR ls s).t.data.toList = t)
def stepR (ls : List Tok) (s : Rst) : Rst := if s.i + 1 < ls.length then { s with i := s.i + 1 } else s
def takeR (ls : List Tok) (s : Rst) (t : List UInt8) : Rst := if isR ls s t = true then stepR ls s else s
def mustR (ls : List Tok) (s : Rst) (t : List UInt8) : Rst := if isR ls s t = true then stepR ls s else failR s 7 (nowR ls s).a
def nmB (x : Tok) : Bool := decide (x.k = 1) && nameR x.t.data.toList && !resB x.t.data.toList
def namedR (ls : List Tok) (s : Rst) : Bool := decide (s.why = 0) && nmB (nowR ls s)
def nmV (ls : List Tok) (s : Rst) : ByteArray := if namedR ls s = true then (nowR ls s).t else ⟨#[]⟩
def nmS (ls : List Tok) (s : Rst) : Rst := if namedR ls s = true then stepR ls s else failR s 7 (nowR ls s).a

/-! ### words and signs -/
def wDeny : List UInt8 := [100, 101, 110, 121]
def wView : List UInt8 := [118, 105, 101, 119]
def wQuota : List UInt8 := [113, 117, 111, 116, 97]
def wLimit : List UInt8 := [108, 105, 109, 105, 116]
def wIf : List UInt8 := [105, 102]
def wNot : List UInt8 := [110, 111, 116]
def wOpen : List UInt8 := [40]
def wShut : List UInt8 := [41]
def wComma : List UInt8 := [44]
def wAny : List UInt8 := [95]
def aggW : List (List UInt8) := [[], [99, 111, 117, 110, 116], [115, 117, 109], [108, 101, 97, 115, 116], [109, 111, 115, 116]]

/-! ### terms, literals, rules -/
structure TmP where
  s : ByteArray
  a : Bool
  v : V
structure LiP where
  n : Bool
  s : ByteArray
  args : List TmP
  o : Int
structure RuP where
  k : Int
  nm : ByteArray
  head : List ByteArray
  ag : Int
  ofv : ByteArray
  lim : Int
  body : List LiP
def noRu : RuP := ⟨0, ⟨#[]⟩, [], 0, ⟨#[]⟩, 0, []⟩
def anyT : TmP := ⟨⟨#[]⟩, true, noV⟩

/-- Which aggregate the token is; 0: none. -/
def aggJ (ls : List Tok) (s : Rst) : Nat := if isR ls s [99, 111, 117, 110, 116] = true then 1 else if isR ls s [115, 117, 109] = true then 2 else if isR ls s [108, 101, 97, 115, 116] = true then 3 else if isR ls s [109, 111, 115, 116] = true then 4 else 0
def aggBad (k : Int) (j : Nat) : Bool := decide (k = 1) || (decide (k = 3) && decide (2 < j))
/-- The reader behind an aggregate; the aggregate; of what it is. -/
def agS (ls : List Tok) (s : Rst) (k : Int) : Rst := if aggJ ls s = 0 then s else if aggBad k (aggJ ls s) = true then failR s 7 (nowR ls s).a else if 1 < aggJ ls s then nmS ls (stepR ls s) else stepR ls s
def agA (ls : List Tok) (s : Rst) (k ag : Int) : Int := if aggJ ls s = 0 then ag else if aggBad k (aggJ ls s) = true then ag else (aggJ ls s : Int)
def agO (ls : List Tok) (s : Rst) (k : Int) (ofv : ByteArray) : ByteArray := if aggJ ls s = 0 then ofv else if aggBad k (aggJ ls s) = true then ofv else if 1 < aggJ ls s then nmV ls (stepR ls s) else ofv

/-- A rule's head as it is read: names, aggregate, of; the reader. -/
structure HdP where
  h : List ByteArray
  ag : Int
  ofv : ByteArray
  s : Rst
def hdF (ls : List Tok) (k : Int) : Nat → HdP → HdP
  | 0, x => x
  | f + 1, x => if x.s.why = 0 then
      (if aggJ ls x.s ≠ 0 then ⟨x.h, agA ls x.s k x.ag, agO ls x.s k x.ofv, agS ls x.s k⟩ else
        let s1 := nmS ls x.s
        let s2 := if 40 ≤ x.h.length then failR s1 9 (nowR ls x.s).a else s1
        let h2 := x.h ++ [nmV ls x.s]
        if isR ls s2 wComma = true then hdF ls k f ⟨h2, x.ag, x.ofv, stepR ls s2⟩ else ⟨h2, x.ag, x.ofv, s2⟩)
    else x
def hdQ (ls : List Tok) (s : Rst) : HdP :=
  let s2 := mustR ls (nmS ls s) wComma
  ⟨[nmV ls s], agA ls s2 3 0, agO ls s2 3 ⟨#[]⟩, if aggJ ls s2 = 0 then failR s2 7 (nowR ls s2).a else agS ls s2 3⟩
def hdR (ls : List Tok) (s : Rst) (k : Int) : HdP := if k = 3 then hdQ ls s else hdF ls k 400 ⟨[], 0, ⟨#[]⟩, s⟩

def conB (ls : List Tok) (s : Rst) : Bool := decide (s.why = 0) && decide ((nowR ls s).k = 2)
def tmV (ls : List Tok) (s : Rst) : TmP := if conB ls s = true then ⟨⟨#[]⟩, false, (nowR ls s).v⟩ else ⟨nmV ls s, false, noV⟩
def tmS (ls : List Tok) (s : Rst) : Rst := if conB ls s = true then stepR ls s else nmS ls s
/-- An arg. -/
def arV (ls : List Tok) (s : Rst) : TmP := if isR ls s wAny = true then anyT else tmV ls s
def arS (ls : List Tok) (s : Rst) : Rst := if isR ls s wAny = true then stepR ls s else tmS ls s
def asF (ls : List Tok) : Nat → List TmP → Rst → List TmP × Rst
  | 0, l, s => (l, s)
  | f + 1, l, s => if s.why = 0 then
      (let s1 := if 40 ≤ l.length then failR (arS ls s) 9 (nowR ls s).a else arS ls s
       if isR ls s1 wComma = true then asF ls f (l ++ [arV ls s]) (stepR ls s1) else (l ++ [arV ls s], mustR ls s1 wShut))
    else (l, s)
def asR (ls : List Tok) (s : Rst) : List TmP × Rst := if isR ls s wShut = true then ([], stepR ls s) else asF ls 400 [] s

/-- Is what follows a bracket? -/
def brB (ls : List Tok) (s : Rst) : Bool := decide (s.i + 1 < ls.length) && (decide ((ls.getD (s.i + 1) noT).k = 3) && decide ((ls.getD (s.i + 1) noT).t.data.toList = wOpen))
/-- An atom behind not, or none. -/
def atR (ls : List Tok) (n : Bool) (m : Nat) (s : Rst) : LiP × Rst :=
  let s2 := mustR ls (nmS ls s) wOpen
  let s3 := if n = false ∧ 6 ≤ m then failR s2 9 (nowR ls s).a else s2
  (⟨n, nmV ls s, (asR ls s3).1, 0⟩, (asR ls s3).2)
/-- A comparison. -/
def opT (x : Tok) : Int := opF x.t.data.toList
def cmR (ls : List Tok) (n : Bool) (s : Rst) : LiP × Rst :=
  let s1 := if n = true then failR s 7 (nowR ls s).a else s
  let s2 := tmS ls s1
  let s3 := if (nowR ls s2).k ≠ 3 ∨ opT (nowR ls s2) = 0 then failR s2 7 (nowR ls s2).a else s2
  let s4 := stepR ls s3
  (⟨n, ⟨#[]⟩, [tmV ls s1, tmV ls s4], opT (nowR ls s2)⟩, tmS ls s4)
def liR (ls : List Tok) (m : Nat) (s : Rst) : LiP × Rst :=
  let n := isR ls s wNot
  let s1 := takeR ls s wNot
  if (namedR ls s1 && (n || brB ls s1)) = true then atR ls n m s1 else cmR ls n s1
def loR (ls : List Tok) (s : Rst) (at' : Int) : Rst :=
  failR (if (isR ls s wNot || (namedR ls s || decide ((nowR ls s).k = 2))) = true then failR s 9 at' else s) 7 at'
def atomB (x : LiP) : Bool := decide (x.o = 0) && !x.n
def boF (ls : List Tok) : Nat → Nat → List LiP → Rst → List LiP × Rst
  | 0, _, l, s => (l, s)
  | f + 1, m, l, s => if s.why = 0 then
      (let s1 := if 10 ≤ l.length then loR ls s (nowR ls s).a else s
       let x := liR ls m s1
       if isR ls x.2 wComma = true then boF ls f (if atomB x.1 = true then m + 1 else m) (l ++ [x.1]) (stepR ls x.2) else (l ++ [x.1], x.2))
    else (l, s)

/-- The kind that a rule's first word tells. -/
def kiK (ls : List Tok) (s : Rst) : Int := if isR ls s wDeny = true then 1 else if isR ls s wView = true then 2 else if isR ls s wQuota = true then 3 else 0
def kiS (ls : List Tok) (s : Rst) : Rst := if kiK ls s = 0 then failR s 7 (nowR ls s).a else stepR ls s
/-- A quota's limit. -/
def limS (ls : List Tok) (s : Rst) : Rst :=
  let s1 := mustR ls s wLimit
  stepR ls (if s1.why = 0 ∧ ((nowR ls s1).k ≠ 2 ∨ (nowR ls s1).v.k ≠ 2) then failR s1 7 (nowR ls s1).a else s1)
def limV (ls : List Tok) (s : Rst) : Int := (nowR ls (mustR ls s wLimit)).v.n
/-- The rule that tokens are, and the reader behind it. -/
def ruX (ls : List Tok) : RuP × Rst :=
  let s0 : Rst := ⟨0, 0, 0⟩
  let k := kiK ls s0
  let s1 := kiS ls s0
  let s2 := mustR ls (nmS ls s1) wOpen
  let h := hdR ls s2 k
  let s3 := mustR ls h.s wShut
  let s4 := if k = 3 then limS ls s3 else s3
  let b := boF ls 400 0 [] (mustR ls s4 wIf)
  (⟨k, nmV ls s1, h.h, h.ag, h.ofv, if k = 3 then limV ls s3 else 0, b.1⟩, if (nowR ls b.2).k ≠ 4 then failR b.2 7 (nowR ls b.2).a else b.2)
/-- The rule that a text is; where, and why, it is none. -/
def ruleR (l : List UInt8) : RuP × Int × Int :=
  if (lexR l).2.2 ≠ 0 then (noRu, (lexR l).2.1, (lexR l).2.2)
  else if (ruX (lexR l).1).2.why = 0 then ((ruX (lexR l).1).1, 0, 0) else (noRu, (ruX (lexR l).1).2.pos, (ruX (lexR l).1).2.why)

/-! ### a reader's place -/
theorem failR_i (s : Rst) (a b : Int) : (failR s a b).i = s.i := by unfold failR; split <;> rfl
theorem stepR_i (ls : List Tok) (s : Rst) (h : s.i < ls.length) : (stepR ls s).i < ls.length := by
  unfold stepR
  split
  · assumption
  · exact h
theorem stepR_why (ls : List Tok) (s : Rst) : (stepR ls s).why = s.why ∧ (stepR ls s).pos = s.pos := by unfold stepR; split <;> exact ⟨rfl, rfl⟩
theorem nowR_at {ls : List Tok} {s : Rst} (h : s.i < ls.length) : ls[s.i]? = some (nowR ls s) := by
  unfold nowR
  rw [List.getD_eq_getElem?_getD, List.getElem?_eq_getElem h]
  rfl
end
end Go.Proofs.YtkobfngnnblpeaaGreatDoor
namespace Go.Proofs.YtkobfngnnblpeaaGreatDoor
section
open Go.RowKit

/-- What is read, and what is left; or where, and why, nothing is. -/
inductive PR (α : Type) where
  | ok (v : α) (r : List Tok)
  | bad (a y : Int)
def PR.bind {α β : Type} (p : PR α) (f : α → List Tok → PR β) : PR β := match p with
  | .ok v r => f v r
  | .bad a y => .bad a y
def hdT (ts : List Tok) : Tok := ts.headD noT
def hasP (ts : List Tok) (t : List UInt8) : Bool := decide ((hdT ts).t.data.toList = t)
def needP (ts : List Tok) (t : List UInt8) : PR Unit := if hasP ts t = true then .ok () ts.tail else .bad (hdT ts).a 7
def nameP (ts : List Tok) : PR ByteArray := if nmB (hdT ts) = true then .ok (hdT ts).t ts.tail else .bad (hdT ts).a 7
def isTm (x : Tok) : Bool := decide (x.k = 2) || nmB x
def termP (ts : List Tok) : PR TmP := if isTm (hdT ts) = true then .ok (if (hdT ts).k = 2 then ⟨⟨#[]⟩, false, (hdT ts).v⟩ else ⟨(hdT ts).t, false, noV⟩) ts.tail else .bad (hdT ts).a 7
def argP (ts : List Tok) : PR TmP := if hasP ts wAny = true then .ok anyT ts.tail else termP ts
def asGo : Nat → List TmP → List Tok → PR (List TmP)
  | 0, _, _ => .bad 0 0
  | f + 1, l, ts => (argP ts).bind fun x r => if l.length = 40 then .bad (hdT ts).a 9 else if hasP r wComma = true then asGo f (l ++ [x]) r.tail else (needP r wShut).bind fun _ r => .ok (l ++ [x]) r
def argsP (ts : List Tok) : PR (List TmP) := (needP ts wOpen).bind fun _ r => if hasP r wShut = true then .ok [] r.tail else asGo 400 [] r
def cmpP (y : TmP) (ts : List Tok) : PR LiP := if opT (hdT ts) = 0 then .bad (hdT ts).a 7 else (termP ts.tail).bind fun z r => .ok ⟨false, ⟨#[]⟩, [y, z], opT (hdT ts)⟩ r
def atmN (l : List LiP) : Nat := (l.filter atomB).length
def litP (l : List LiP) (ts : List Tok) : PR LiP :=
  if hasP ts wNot = false ∧ isTm (hdT ts) = false then .bad (hdT ts).a 7
  else if l.length = 10 then .bad (hdT ts).a 9
  else if hasP ts wNot = true then (nameP ts.tail).bind fun nm r => (argsP r).bind fun a r => .ok ⟨true, nm, a, 0⟩ r
  else (termP ts).bind fun y r => if y.s.data.toList = [] ∨ hasP r wOpen = false then cmpP y r else if atmN l = 6 then .bad (hdT ts).a 9 else (argsP r).bind fun a r => .ok ⟨false, y.s, a, 0⟩ r
def boGo : Nat → List LiP → List Tok → PR (List LiP)
  | 0, _, _ => .bad 0 0
  | f + 1, l, ts => (litP l ts).bind fun x r => if hasP r wComma = true then boGo f (l ++ [x]) r.tail else if (hdT r).k = 4 then .ok (l ++ [x]) r.tail else .bad (hdT r).a 7
/-- Which aggregate a token tells. -/
def agT (x : Tok) : Nat := if x.t.data.toList = [99, 111, 117, 110, 116] then 1 else if x.t.data.toList = [115, 117, 109] then 2 else if x.t.data.toList = [108, 101, 97, 115, 116] then 3 else if x.t.data.toList = [109, 111, 115, 116] then 4 else 0
def aggP (k : Int) (ts : List Tok) : PR (Int × ByteArray) :=
  if agT (hdT ts) = 0 ∨ (k = 3 ∧ agT (hdT ts) ≠ 1 ∧ agT (hdT ts) ≠ 2) then .bad (hdT ts).a 7
  else if agT (hdT ts) = 1 then .ok (1, ⟨#[]⟩) ts.tail else (nameP ts.tail).bind fun nm r => .ok ((agT (hdT ts) : Int), nm) r
structure HeP where
  h : List ByteArray
  ag : Int
  ofv : ByteArray
  lim : Int
def heGo (k : Int) : Nat → List ByteArray → List Tok → PR HeP
  | 0, _, _ => .bad 0 0
  | f + 1, h, ts => if k = 2 ∧ agT (hdT ts) ≠ 0 then (aggP k ts).bind fun x r => (needP r wShut).bind fun _ r => .ok ⟨h, x.1, x.2, 0⟩ r
    else (nameP ts).bind fun nm r => if h.length = 40 then .bad (hdT ts).a 9 else if hasP r wComma = true then heGo k f (h ++ [nm]) r.tail else (needP r wShut).bind fun _ r => .ok ⟨h ++ [nm], 0, ⟨#[]⟩, 0⟩ r
def numP (ts : List Tok) : PR Int := if (hdT ts).v.k = 2 then .ok (hdT ts).v.n ts.tail else .bad (hdT ts).a 7
def quP (ts : List Tok) : PR HeP := (nameP ts).bind fun nm r => (needP r wComma).bind fun _ r => (aggP 3 r).bind fun x r => (needP r wShut).bind fun _ r => (needP r wLimit).bind fun _ r => (numP r).bind fun n r => .ok ⟨[nm], x.1, x.2, n⟩ r
def kindN (x : Tok) : Int := if x.t.data.toList = wDeny then 1 else if x.t.data.toList = wView then 2 else if x.t.data.toList = wQuota then 3 else 0
def kindP (ts : List Tok) : PR Int := if kindN (hdT ts) = 0 then .bad (hdT ts).a 7 else .ok (kindN (hdT ts)) ts.tail
def ruleP (ts : List Tok) : PR RuP :=
  (kindP ts).bind fun k r => (nameP r).bind fun nm r => (needP r wOpen).bind fun _ r => (if k = 3 then quP r else heGo k 400 [] r).bind fun h r => (needP r wIf).bind fun _ r => (boGo 400 [] r).bind fun b r =>
    .ok ⟨k, nm, h.h, h.ag, h.ofv, h.lim, b⟩ r

/-! ### what tokens a text has -/
/-- Words and signs that are asked for. -/
def keyW : List (List UInt8) := [wDeny, wView, wQuota, wLimit, wIf, wNot, wOpen, wShut, wComma, wAny, [99, 111, 117, 110, 116], [115, 117, 109], [108, 101, 97, 115, 116], [109, 111, 115, 116]]
/-- A token that is not the end. -/
structure TkI (x : Tok) : Prop where
  k : x.k = 1 ∨ x.k = 2 ∨ x.k = 3
  ne : x.t.data.toList ≠ []
  key : x.k = 2 → ¬ x.t.data.toList ∈ keyW
  op : opT x ≠ 0 → x.k = 3
  v : x.k ≠ 2 → x.v.k = 0
  br : x.t.data.toList = wOpen → x.k = 3
def TkE (x : Tok) : Prop := x.k = 4 ∧ x.t = ⟨#[]⟩ ∧ x.v.k = 0
/-- Tokens with one end, behind all. -/
def TkG : List Tok → Prop
  | [] => False
  | x :: r => (TkE x ∧ r = []) ∨ (TkI x ∧ TkG r)
def opW : List (List UInt8) := [[61, 61], [33, 61], [60], [60, 61], [62], [62, 61]]
theorem readR_key : ∀ w ∈ keyW ++ opW, (readR w).2 ≠ 0 := by
  have h : ((keyW ++ opW).map fun w => (readR w).2) = [7, 7, 7, 7, 7, 7, 7, 7, 7, 7, 7, 7, 7, 7, 7, 7, 7, 7, 7, 7] := by kernel_rfl
  intro w hw e
  have h1 : (0 : Int) ∈ (keyW ++ opW).map fun w => (readR w).2 := List.mem_map.2 ⟨w, hw, e⟩
  rw [h] at h1
  simp at h1
theorem opF_mem {l : List UInt8} (h : opF l ≠ 0) : l ∈ opW := by
  unfold opF at h
  split at h
  · next e => rw [e]; decide
  · split at h
    · next e => rw [e]; decide
    · split at h
      · next e => rw [e]; decide
      · split at h
        · next e => rw [e]; decide
        · split at h
          · next e => rw [e]; decide
          · split at h
            · next e => rw [e]; decide
            · exact absurd rfl h
theorem con_tk (l : List UInt8) (h : l ≠ []) (hr : (readR l).2 = 0) : TkI ⟨2, ⟨l.toArray⟩, (readR l).1, 0⟩ := by
  refine ⟨.inr (.inl rfl), ?_, ?_, ?_, fun h => absurd rfl h, fun e => ?_⟩
  · intro e'
    exact h (by simpa using e')
  · intro _ hm
    have hm : l ∈ keyW := by simpa using hm
    exact readR_key l (List.mem_append.2 (.inl hm)) hr
  · intro ho
    have ho : opF l ≠ 0 := by simpa [opT] using ho
    exact absurd hr (readR_key l (List.mem_append.2 (.inr (opF_mem ho))))
  · have e : l = wOpen := by simpa using e
    exact absurd hr (readR_key l (List.mem_append.2 (.inl (by rw [e]; decide))))
theorem conT_tk (l : List UInt8) (h : l ≠ []) (hk : (conT l).k ≠ 0) : TkI (conT l) := by
  unfold conT at hk ⊢
  by_cases e : (readR l).2 = 0
  · rw [if_pos e]
    exact con_tk l h e
  · rw [if_neg e] at hk
    exact absurd rfl hk
theorem oneT_tk (l : List UInt8) (h : l ≠ []) (hk : (oneT l).k ≠ 0) : TkI (oneT l) := by
  match l, h with
  | c :: r, _ =>
    have hne : ∀ n, 0 < n → (c :: r).take n ≠ [] := fun n hn e => by
      cases n with
      | zero => omega
      | succ n => simp at e
    unfold oneT at hk ⊢
    simp only at hk ⊢
    split at hk
    · next h1 =>
      rw [if_pos h1]
      unfold quoT at hk ⊢
      split at hk
      · exact absurd rfl hk
      · next h2 =>
        rw [if_neg h2]
        exact conT_tk _ (hne _ (by omega)) hk
    · next h1 =>
      rw [if_neg h1]
      split at hk
      · next h2 =>
        rw [if_pos h2]
        unfold numT at hk ⊢
        split at hk
        · exact absurd rfl hk
        · next h3 =>
          rw [if_neg h3]
          refine conT_tk _ (hne _ ?_) hk
          unfold numF
          split
          · omega
          · rename_i h4
            simp only [Bool.or_eq_true, decide_eq_true_eq] at h2
            rcases h2 with h2 | h2
            · rw [List.takeWhile_cons_of_pos h2]
              simp
            · subst h2
              simp at h4
      · next h2 =>
        rw [if_neg h2]
        split at hk
        · next h3 =>
          rw [if_pos h3]
          have hw : 0 < wordF (c :: r) := by
            unfold wordF
            rw [List.takeWhile_cons_of_pos (by unfold wch; rw [h3]; rfl)]
            simp
          unfold worT at hk ⊢
          by_cases e : (readR ((c :: r).take (wordF (c :: r)))).2 = 0
          · rw [if_pos e]
            exact con_tk _ (hne _ hw) e
          · rw [if_neg e]
            have hh : ∃ r', (c :: r).take (wordF (c :: r)) = c :: r' := by
              obtain ⟨n, hn⟩ : ∃ n, wordF (c :: r) = n + 1 := ⟨wordF (c :: r) - 1, by omega⟩
              rw [hn]
              exact ⟨_, List.take_succ_cons ..⟩
            obtain ⟨r', hr'⟩ := hh
            rw [hr']
            refine ⟨.inl rfl, by simp, fun h => absurd (show (1 : Int) = 2 from h) (by decide), fun ho => ?_, fun _ => rfl, fun e => ?_⟩
            · exfalso
              have ho : opF (c :: r') ≠ 0 := by simpa [opT] using ho
              have hm := opF_mem ho
              unfold ltr at h3
              simp only [opW, List.mem_cons, List.cons.injEq, List.not_mem_nil, or_false] at hm
              rcases hm with ⟨rfl, _⟩ | ⟨rfl, _⟩ | ⟨rfl, _⟩ | ⟨rfl, _⟩ | ⟨rfl, _⟩ | ⟨rfl, _⟩ <;> revert h3 <;> decide
            · exfalso
              have e : c :: r' = [40] := by simpa [wOpen] using e
              injection e with e1 _
              subst e1
              revert h3
              decide
        · next h3 =>
          rw [if_neg h3]
          unfold sgnT at hk ⊢
          split at hk
          · exact absurd rfl hk
          · next h4 =>
            rw [if_neg h4]
            exact ⟨.inr (.inr rfl), fun e => hne (sgnF (c :: r)) (by omega) (by simpa using e), fun h => absurd (show (3 : Int) = 2 from h) (by decide), fun _ => rfl, fun _ => rfl, fun _ => rfl⟩
theorem TkI.set {x : Tok} (h : TkI x) (a : Int) : TkI (x.set a) := ⟨h.k, h.ne, h.key, h.op, h.v, h.br⟩
theorem lexF_tk : ∀ (f n : Nat) (l : List UInt8), l.length < f → (∀ x ∈ lexF f n l, x.k ≠ 0) → TkG (lexF f n l)
  | 0, _, _, h, _ => by omega
  | f + 1, n, l, hf, hx => by
    unfold lexF at hx ⊢
    have hk : (oneT (l.dropWhile blk)).k ≠ 0 := by
      have h := hx _ (List.mem_cons_self ..)
      exact h
    by_cases hn : l.dropWhile blk = []
    · rw [hn]
      left
      exact ⟨⟨rfl, rfl, rfl⟩, rfl⟩
    · have ht := oneT_tk _ hn hk
      have hs : ¬ (oneT (l.dropWhile blk)).t.size = 0 := fun e => ht.ne (by
        apply List.eq_nil_of_length_eq_zero
        simpa using e)
      rw [if_neg hs] at hx ⊢
      right
      have h1 := oneT_size (l.dropWhile blk)
      have h2 := drop_blk_le l
      exact ⟨ht.set _, lexF_tk f n _ (by rw [List.length_drop]; omega) fun x hm => hx x (List.mem_cons_of_mem _ hm)⟩
/-- The tokens of a text that has some. -/
theorem lexR_tk {l : List UInt8} (h : (lexR l).2.2 = 0) : TkG (lexR l).1 := by
  unfold lexR at h ⊢
  by_cases hl : 300 < l.length
  · rw [if_pos hl] at h
    exact absurd (show (9 : Int) = 0 from h) (by decide)
  · rw [if_neg hl] at h ⊢
    cases hf : (lexA l.length l).find? (fun t => decide (t.k = 0)) with
    | none =>
      refine lexF_tk _ _ _ (Nat.lt_succ_self _) fun x hx => ?_
      have h1 := List.find?_eq_none.1 hf x hx
      simpa using h1
    | some t =>
      rw [hf] at h
      exact absurd (show (7 : Int) = 0 from h) (by decide)
end
end Go.Proofs.YtkobfngnnblpeaaGreatDoor
