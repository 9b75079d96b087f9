/-
  Rules in memory as layer 15 sees them; the variables that atoms bind, as a plain function; sets of names in a map: have, put; small calls.
  Condition: names no longer than they can be.
  Sets of names: put; whether a term is a variable, a literal an atom; has of the document; lists of texts that are alike.
  Condition: names no longer than they can be; lists of no more than a million.
  Bound of package guard: the variables that atoms bind.
  Condition: a rule of which not very much is to be read.
  The document's Bound of layer 15: the variables that atoms bind.
  Condition: a rule of which not very much is to be read.
  The first variable that a rule asks, but that no atom binds, as a plain function; told of package guard: what a rule asks by what it tells.
  Condition: a rule of which not very much is to be read.
-/
import Derived.Maps.OwnSet
import Derived.Maps.OwnOps
import Derived.Test.YthdjkagodccdbaaM17
import Derived.Test.YthdjkagodccdbaaM23
import Derived.Test.YthdjkagodccdbaaM25
namespace Go.Proofs.Ythdjkagodccdbaa
section
open Go.RowKit Go.Maps

/-- A literal as it lies anywhere, with its terms. -/
structure LmG where
  n : Bool
  s : ByteArray
  A : Option Addr
  c : Nat
  args : List TmP
  o : Int
abbrev LmG.cells (x : LmG) : List Value := [.bool x.n, .string x.s, .slice x.A x.args.length x.c, .int .i64 x.o]
abbrev LmG.val (x : LmG) : Value := .agg #[.bool x.n, .string x.s, .slice x.A x.args.length x.c, .int .i64 x.o]
abbrev LmG.li (x : LmG) : LiP := ⟨x.n, x.s, x.args, x.o⟩
def LgsAt (W : World) (A : Option Addr) (l : List LmG) : Prop := ElsAt LmG.cells 4 W A l ∧ ∀ x ∈ l, ElsAt TmP.cells 6 W x.A x.args
theorem LgsAt.below {W W' : World} {A : Option Addr} {l : List LmG} (h : LgsAt W A l) (hb : Below W.heap.size W W') : LgsAt W' A l := ⟨h.1.below hb, fun x hx => (h.2 x hx).below hb⟩
/-- A rule as it lies anywhere. -/
structure RuG where
  k : Int
  nm : ByteArray
  hA : Option Addr
  hc : Nat
  head : List ByteArray
  ag : Int
  ofv : ByteArray
  lim : Int
  bA : Option Addr
  bc : Nat
  body : List LmG
abbrev RuG.cells (r : RuG) : Array Value := #[.int .i64 r.k, .string r.nm, .slice r.hA r.head.length r.hc, .int .i64 r.ag, .string r.ofv, .int .i64 r.lim, .slice r.bA r.body.length r.bc]
def RuG.Ok (W : World) (r : RuG) : Prop := ElsAt strC 1 W r.hA r.head ∧ LgsAt W r.bA r.body
theorem RuG.Ok.below {W W' : World} {r : RuG} (h : r.Ok W) (hb : Below W.heap.size W W') : r.Ok W' := ⟨h.1.below hb, h.2.below hb⟩
/-- A rule of which not very much is to be read. -/
def RuG.Sml (r : RuG) : Prop := r.head.length ≤ 200 ∧ r.body.length ≤ 41 ∧ (∀ s ∈ r.head, s.size ≤ maxLen) ∧ r.ofv.size ≤ maxLen ∧ ∀ x ∈ r.body, x.args.length ≤ 5000 ∧ ∀ t ∈ x.args, t.s.size ≤ maxLen

theorem at_add (a : Addr) (i : Nat) : a.add (i + 1) = { block := a.block, off := a.off + (i + 1) } := by simp [Addr.add]
/-- A literal's cells. -/
theorem els_L {W : World} {A : Option Addr} {l : List LmG} {i : Nat} {x : LmG} (h : ElsAt LmG.cells 4 W A l) (hi : l[i]? = some x) :
    ∃ a : Addr, A = some a ∧ W.cell? (a.add (i * 4)) = some (.bool x.n) ∧ W.cell? { block := (a.add (i * 4)).block, off := (a.add (i * 4)).off + 1 } = some (.string x.s) ∧ W.cell? { block := (a.add (i * 4)).block, off := (a.add (i * 4)).off + 2 } = some (.slice x.A x.args.length x.c) ∧ W.cell? { block := (a.add (i * 4)).block, off := (a.add (i * 4)).off + 3 } = some (.int .i64 x.o) := by
  obtain ⟨a, ha, hc⟩ := h i x hi
  have h0 := hc 0 _ rfl
  have h1 := hc 1 _ rfl
  have h2 := hc 2 _ rfl
  have h3 := hc 3 _ rfl
  rw [at_add] at h1 h2 h3
  exact ⟨a, ha, by simpa [Addr.add] using h0, h1, h2, h3⟩
/-- A term's cells. -/
theorem els_T {W : World} {A : Option Addr} {l : List TmP} {i : Nat} {x : TmP} (h : ElsAt TmP.cells 6 W A l) (hi : l[i]? = some x) :
    ∃ a : Addr, A = some a ∧ W.cell? (a.add (i * 6)) = some (.string x.s) ∧ W.cell? { block := (a.add (i * 6)).block, off := (a.add (i * 6)).off + 1 } = some (.bool x.a) ∧ W.cell? { block := (a.add (i * 6)).block, off := (a.add (i * 6)).off + 2 } = some (.int .i64 x.v.k) ∧ W.cell? { block := (a.add (i * 6)).block, off := (a.add (i * 6)).off + 3 } = some (.bool x.v.f) ∧
      W.cell? { block := (a.add (i * 6)).block, off := (a.add (i * 6)).off + 4 } = some (.int .i64 x.v.n) ∧ W.cell? { block := (a.add (i * 6)).block, off := (a.add (i * 6)).off + 5 } = some (.string x.v.t) := by
  obtain ⟨a, ha, hc⟩ := h i x hi
  have h0 := hc 0 _ rfl
  have h1 := hc 1 _ rfl
  have h2 := hc 2 _ rfl
  have h3 := hc 3 _ rfl
  have h4 := hc 4 _ rfl
  have h5 := hc 5 _ rfl
  rw [at_add] at h1 h2 h3 h4 h5
  exact ⟨a, ha, by simpa [Addr.add] using h0, h1, h2, h3, h4, h5⟩
/-- A text's cell. -/
theorem els_S {W : World} {A : Option Addr} {l : List ByteArray} {i : Nat} {x : ByteArray} (h : ElsAt strC 1 W A l) (hi : l[i]? = some x) : ∃ a : Addr, A = some a ∧ W.cell? (a.add i) = some (.string x) := by
  obtain ⟨a, ha, hc⟩ := h i x hi
  have h0 := hc 0 _ rfl
  rw [Nat.mul_one] at h0
  exact ⟨a, ha, by simpa [Addr.add] using h0⟩

/-! ### what atoms bind -/
def isV (t : TmP) : Bool := !t.a && !(t.s.toList == [])
def stepT (out : List ByteArray) (t : TmP) : List ByteArray := if (isV t && !hasX t.s out) = true then out ++ [t.s] else out
def stepL (out : List ByteArray) (x : LiP) : List ByteArray := if atomB x = true then x.args.foldl stepT out else out
/-- The variables that atoms bind. -/
def bndL (b : List LiP) : List ByteArray := b.foldl stepL []
theorem fold_next {α β : Type} (f : β → α → β) (l : List α) (k : Nat) (x : α) (o : β) (h : l[k]? = some x) : (l.take (k + 1)).foldl f o = f ((l.take k).foldl f o) x := by
  rw [List.take_add_one, h, Option.toList_some, List.foldl_append]
  rfl
theorem stepT_len (out : List ByteArray) (t : TmP) : (stepT out t).length ≤ out.length + 1 := by
  unfold stepT
  split
  · rw [List.length_append]; exact Nat.le_refl _
  · omega
theorem foldT_len : ∀ (l : List TmP) (out : List ByteArray), (l.foldl stepT out).length ≤ out.length + l.length
  | [], _ => Nat.le_refl _
  | t :: l, out => by
    have h1 := stepT_len out t
    have h2 := foldT_len l (stepT out t)
    rw [List.foldl_cons, List.length_cons]
    omega
theorem stepL_len (out : List ByteArray) (x : LiP) (h : x.args.length ≤ 5000) : (stepL out x).length ≤ out.length + 5000 := by
  unfold stepL
  split
  · have := foldT_len x.args out
    omega
  · omega
theorem foldL_len : ∀ (l : List LiP) (out : List ByteArray), (∀ x ∈ l, x.args.length ≤ 5000) → (l.foldl stepL out).length ≤ out.length + l.length * 5000
  | [], _, _ => by simp
  | x :: l, out, h => by
    have h1 := stepL_len out x (h x (List.mem_cons_self ..))
    have h2 := foldL_len l (stepL out x) (fun y hy => h y (List.mem_cons_of_mem _ hy))
    rw [List.foldl_cons, List.length_cons]
    omega

/-! ### sets of names -/
def kG (b : ByteArray) : Lit := .string b.data.toList
theorem kG_inj {a b : ByteArray} (h : kG a = kG b) : a = b := by
  unfold kG at h
  injection h with h
  obtain ⟨⟨l⟩⟩ := a
  obtain ⟨⟨l'⟩⟩ := b
  simp only at h
  rw [h]
theorem lawG : Keyed Try.prog 9 := string_keyed Try.underlying9
/-- The map in block b has just these names. -/
def SetG (W : World) (b : Nat) (ss : List ByteArray) (m : Nat) : Prop := ∃ (n : Nat) (D : DataW Value), n ≤ m ∧ W.ownsMap Try.prog 9 unitElem b n D ∧ ∀ s, Maps.has D (kG s) = hasX s ss
theorem SetG.block {W W' : World} {b m : Nat} {ss : List ByteArray} (h : SetG W b ss m) (hb : W'.heap[b]? = W.heap[b]?) : SetG W' b ss m := by
  obtain ⟨n, D, h1, ⟨es, clock, e1, e2⟩, h3⟩ := h
  exact ⟨n, D, h1, ⟨es, clock, hb.trans e1, e2⟩, h3⟩
theorem SetG.lt {W : World} {b m : Nat} {ss : List ByteArray} (h : SetG W b ss m) : b < W.heap.size := by
  obtain ⟨n, D, h1, ⟨es, clock, e1, e2⟩, h3⟩ := h
  exact (Array.getElem?_eq_some_iff.1 e1).1
theorem hasX_app (s t : ByteArray) (ss : List ByteArray) : hasX s (ss ++ [t]) = (decide (s = t) || hasX s ss) := by
  rw [Bool.eq_iff_iff, Bool.or_eq_true, decide_eq_true_eq, hasX_iff, hasX_iff, List.mem_append, List.mem_singleton]
  exact Or.comm
end
end Go.Proofs.Ythdjkagodccdbaa
namespace Go.Proofs.Ythdjkagodccdbaa
section
open Go.RowKit Go.Maps

theorem els_one {W : World} {b : Nat} {s : ByteArray} {T : TypeId} (h : W.heap[b]? = some (.cells #[.string s] T (0, 0))) : ElsAt strC 1 W (some ⟨b, 0, none⟩) [s] := by
  intro i x hi
  match i, hi with
  | 0, hi =>
    have e : s = x := by simpa using hi
    subst e
    refine ⟨_, rfl, fun j u hj => ?_⟩
    have h1 : j < 1 := (List.getElem?_eq_some_iff.1 hj).1
    obtain rfl : j = 0 := by omega
    rw [add_add, cell_of_row _ b (0 * 1 + 0) _ _ (0, 0) h]
    exact hj
end
end Go.Proofs.Ythdjkagodccdbaa
namespace Go.Proofs.Ythdjkagodccdbaa
section
open Go.RowKit Go.Maps

theorem OwnF.ne_map {α : Type} {E : TypeId} {f : α → List Value} {n : Nat} {w : World} {base : Nat} {v : Value} {l : List α} {b m : Nat} {ss : List ByteArray} (h : OwnF E f n w base v l) (hs : SetG w b ss m) : ∀ k, v.ownBlock = some k → k ≠ b := by
  intro k hk e
  subst e
  obtain ⟨n, D, _, ⟨es, clock, e1, _⟩, _⟩ := hs
  rcases h.2 with ⟨hn, _⟩ | ⟨g, cap, cur, hv, _, hh, _⟩
  · rw [hn] at hk; cases hk
  · rw [hv] at hk
    have e' : g = k := by injection hk
    rw [e', e1] at hh
    cases hh
theorem SetG.grown {W W' : World} {b m : Nat} {ss : List ByteArray} {v : Value} (h : SetG W b ss m) (hg : W.grownBy W' v.ownBlock) (hne : ∀ k, v.ownBlock = some k → k ≠ b) : SetG W' b ss m :=
  h.block (hg.block b h.lt (fun e => hne b e.symm rfl))
theorem OwnF.grownMap {α : Type} {E : TypeId} {f : α → List Value} {n : Nat} {w w' : World} {base : Nat} {v : Value} {l : List α} {b m : Nat} {ss : List ByteArray} (h : OwnF E f n w base v l) (hs : SetG w b ss m) (hg : w.grownBy w' (some b)) : OwnF E f n w' base v l :=
  h.byBlock fun k hk => hg.block k (h.lt k hk).2 (fun e => h.ne_map hs k hk (by injection e))
/-- What a loop over a rule's terms keeps. -/
structure BSt (w0 wr : World) (base mb : Nat) (v : Value) (out : List ByteArray) : Prop where
  own : OwnSt wr base v out
  set : SetG wr mb out out.length
  bel : Below base w0 wr
  mbl : base ≤ mb
theorem BSt.below {w0 wr w' : World} {base mb : Nat} {v : Value} {out : List ByteArray} (h : BSt w0 wr base mb v out) (hs : base ≤ wr.heap.size) (hb : Below wr.heap.size wr w') : BSt w0 w' base mb v out :=
  ⟨h.own.below hb, h.set.block (hb.block mb h.set.lt), h.bel.trans (hb.mono hs), h.mbl⟩
end
end Go.Proofs.Ythdjkagodccdbaa
namespace Go.Proofs.Ythdjkagodccdbaa
section
open Go.RowKit Go.Maps

theorem OwnF.els {w : World} {base : Nat} {v : Value} {l : List ByteArray} (h : OwnSt w base v l) : ∃ A c, v = .slice A l.length c ∧ ElsAt strC 1 w A l := by
  rcases h.slice el_Str with ⟨rfl, rfl⟩ | ⟨g, c, rfl, _, _, _, he⟩
  · exact ⟨none, 0, rfl, fun i x hi => by simp at hi⟩
  · exact ⟨_, c, rfl, he⟩
end
end Go.Proofs.Ythdjkagodccdbaa
namespace Go.Proofs.Ythdjkagodccdbaa
section
open Go.RowKit Go.Maps

/-- What a rule asks by what it tells. -/
def toldL (x : RuP) : List ByteArray := x.head ++ if 2 ≤ x.ag ∧ x.ag ≤ 4 then [x.ofv] else []
def badT (b : List ByteArray) (t : TmP) : Bool := isV t && !hasX t.s b
/-- The first term of a body's that is not bound, and where. -/
def bodF (b : List ByteArray) : Nat → List LiP → Option (ByteArray × Nat)
  | _, [] => none
  | i, x :: xs => match x.args.find? (badT b) with
    | some t => some (t.s, i)
    | none => bodF b (i + 1) xs
def freeX (x : RuP) : ByteArray × Int × Bool := match (toldL x).find? (fun s => !hasX s (bndL x.body)) with
  | some s => (s, -1, true)
  | none => match bodF (bndL x.body) 0 x.body with
    | some (s, i) => (s, (i : Int), true)
    | none => (⟨#[]⟩, 0, false)

theorem stepT_mono {s : ByteArray} {out : List ByteArray} (t : TmP) (h : hasX s out = true) : hasX s (stepT out t) = true := by
  unfold stepT
  split
  · rw [hasX_app, h, Bool.or_true]
  · exact h
theorem foldT_mono {s : ByteArray} : ∀ (l : List TmP) (out : List ByteArray), hasX s out = true → hasX s (l.foldl stepT out) = true
  | [], _, h => h
  | t :: l, out, h => foldT_mono l (stepT out t) (stepT_mono t h)
theorem foldT_mem {t : TmP} (hv : isV t = true) : ∀ (l : List TmP) (out : List ByteArray), t ∈ l → hasX t.s (l.foldl stepT out) = true
  | [], _, h => absurd h List.not_mem_nil
  | u :: l, out, h => by
    rcases List.mem_cons.1 h with rfl | h
    · refine foldT_mono l _ ?_
      unfold stepT
      rw [hv, Bool.true_and]
      cases hh : hasX t.s out with
      | true => rw [if_neg (by simp)]; exact hh
      | false => rw [if_pos (by simp), hasX_app]; simp
    · exact foldT_mem hv l (stepT out u) h
theorem stepL_mono {s : ByteArray} {out : List ByteArray} (x : LiP) (h : hasX s out = true) : hasX s (stepL out x) = true := by
  unfold stepL
  split
  · exact foldT_mono _ _ h
  · exact h
theorem foldL_mono {s : ByteArray} : ∀ (l : List LiP) (out : List ByteArray), hasX s out = true → hasX s (l.foldl stepL out) = true
  | [], _, h => h
  | x :: l, out, h => foldL_mono l (stepL out x) (stepL_mono x h)
theorem foldL_mem {x : LiP} (ha : atomB x = true) {t : TmP} (ht : t ∈ x.args) (hv : isV t = true) : ∀ (l : List LiP) (out : List ByteArray), x ∈ l → hasX t.s (l.foldl stepL out) = true
  | [], _, h => absurd h List.not_mem_nil
  | y :: l, out, h => by
    rcases List.mem_cons.1 h with rfl | h
    · refine foldL_mono l _ ?_
      unfold stepL
      rw [if_pos ha]
      exact foldT_mem hv _ _ ht
    · exact foldL_mem ha ht hv l (stepL out y) h
/-- In an atom all is bound. -/
theorem atom_bound {l : List LiP} {x : LiP} (hx : x ∈ l) (ha : atomB x = true) : x.args.find? (badT (bndL l)) = none := by
  rw [List.find?_eq_none]
  intro t ht
  unfold badT
  cases hv : isV t with
  | false => simp
  | true =>
    have := foldL_mem ha ht hv l [] hx
    unfold bndL
    rw [this]
    simp
theorem bodF_skip (b : List ByteArray) (i : Nat) (x : LiP) (xs : List LiP) (h : x.args.find? (badT b) = none) : bodF b i (x :: xs) = bodF b (i + 1) xs := by
  rw [bodF, h]
theorem bodF_hit (b : List ByteArray) (i : Nat) (x : LiP) (xs : List LiP) (t : TmP) (h : x.args.find? (badT b) = some t) : bodF b i (x :: xs) = some (t.s, i) := by
  rw [bodF, h]
theorem find_dropG {α : Type} (p : α → Bool) (l : List α) (k : Nat) (x : α) (h : l[k]? = some x) : (l.drop k).find? p = if p x = true then some x else (l.drop (k + 1)).find? p := by
  obtain ⟨h1, h2⟩ := List.getElem?_eq_some_iff.1 h
  rw [List.drop_eq_getElem_cons h1, h2, List.find?_cons]
  cases p x <;> rfl

set_option maxRecDepth 10000 in
theorem wp_append_SG {ops : Array Oper} {rest : List Oper} {o : Oper} {a : Act} {Q : Exit → Act → World → Prop} (w : World) (hgd : o.guard = none) (s x : Operand)
    (ho : o.op = .call { callee := .builtin .append, args := #[s, x], argTypes := #[24, 24] })
    (base : Nat) (v : Value) (xs ys : List ByteArray) (hs : a.eval s = v) (hown : OwnSt w base v xs)
    (A : Option Addr) (m c : Nat) (hx : a.eval x = .slice A m c) (hm : m = ys.length) (hr : ElsAt strC 1 w A ys)
    (hroom : xs.length + ys.length ≤ 3000000) (hbase : base ≤ w.heap.size)
    (h : ∀ v' w', OwnSt w' base v' (xs ++ ys) → Below base w w' → wpList Try.prog ops Q rest (a.put o.dst v') w') : wpList Try.prog ops Q (o :: rest) a w := by
  obtain ⟨z, hz0, hzc⟩ := el_Str.info
  obtain ⟨i, hi, hz, hsize, hby⟩ := info_parts hz0
  refine wpList_plain hgd fun K hK => ?_
  have hrun : ∃ v' w', (Builtin.append_ #[24, 24] o.type #[v, .slice A m c]).run Try.prog w = .ok v' w' ∧ OwnSt w' base v' (xs ++ ys) ∧ w.grownBy w' v.ownBlock := by
    cases A with
    | none =>
      have hy : ys = [] := by
        cases ys with
        | nil => rfl
        | cons y ys =>
          obtain ⟨a, ha, _⟩ := hr 0 y rfl
          cases ha
      subst hy
      subst hm
      refine ⟨v, w, ?_, by simpa using hown, World.grownBy.refl _ _⟩
      rcases hown.2 with ⟨rfl, _⟩ | ⟨g, cap, cur, rfl, _, _, hnc, _⟩
      · simp [Builtin.append_, run_underlying Try.underlying24, sizeOf, typeInfo, hi, Builtin.lenOf, Builtin.firstCells]
      · simp [Builtin.append_, run_underlying Try.underlying24, sizeOf, typeInfo, hi, Builtin.lenOf, Builtin.firstCells, hnc, storeCells]
    | some ad =>
      obtain ⟨v', w', h1, h2, h3, _⟩ := run_append_own_at (P := Try.prog) w base 24 o.type 9 i _ 1 16 Try.underlying24 hi hz hsize hby hzc (by omega) v xs.length (xs.flatMap strC) hown ad m c (ys.flatMap strC)
        (by rw [flatF_len el_Str.len, hm]) (fun j u hj => by
          have hjl : j < ys.length := by
            have := (List.getElem?_eq_some_iff.1 hj).1
            rw [flatF_len el_Str.len] at this
            omega
          have h1 := flatF_at el_Str.len ys j ys[j] (List.getElem?_eq_getElem hjl) 0 _ rfl
          rw [Nat.mul_one, Nat.add_zero, hj] at h1
          injection h1 with h1
          subst h1
          obtain ⟨a', ha', hc'⟩ := els_S hr (List.getElem?_eq_getElem hjl)
          injection ha' with ha'
          subst ha'
          exact hc') (fun u hu => by
          obtain ⟨y, _, hy⟩ := List.mem_flatMap.1 hu
          exact el_Str.one y u hy) (by unfold maxLen; omega) (by omega) hbase
      refine ⟨v', w', h1, ?_, h3⟩
      unfold OwnSt OwnF
      rw [List.flatMap_append, List.length_append, ← hm]
      exact h2
  obtain ⟨v', w', hrun, h2, h3⟩ := hrun
  unfold Oper.wp execOp
  simp only [ho, resolve, invoke, builtin, Sem.run_bind, Sem.run_pure, Result.andThen_ok, List.map_toArray, List.map_cons, List.map_nil, hs, hx, hrun]
  exact hK _ _ (h v' w' h2 ((Below.refl _ _).grown h3 hbase (fun k hk => (hown.lt k hk).1)))

/-- A slice of no texts that was made. -/
theorem own_none (w : World) (g : Nat) (hg : g = w.heap.size) : OwnSt (w.alloc (.cells #[] 9)) g (.slice (some ⟨g, 0, none⟩) 0 0) [] := by
  subst hg
  refine ⟨rfl, Or.inr ⟨w.heap.size, 0, #[], rfl, Nat.le_refl _, heap_alloc_new w _, Nat.le_refl _, by unfold maxLen; omega, rfl, rfl⟩⟩
end
end Go.Proofs.Ythdjkagodccdbaa
