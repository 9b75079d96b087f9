/-
  The columns of a rule's variables as plain functions: what arguments, literals, a body and a head tell of them, or why not.
  No condition.
  What package types knows of variables lies in memory: a box with the kinds, a map of views, a map of columns, and the names in order; small calls.
  No condition but that names are no longer than they can be.
-/
import Derived.Deep.RegionHeld3
import Derived.BigQuiet
import Derived.Test.YthdjkagodccdbaaM33
import Derived.Test.YthdjkagodccdbaaM35
namespace Go.Proofs.Ythdjkagodccdbaa
section
open Go.RowKit

def findC (L : List Co) (n : ByteArray) : Option Co := L.find? fun c => decide (c.nm = n)
/-- A variable stands at a column once more. -/
def bindC : List Co → Co → List Co
  | [], c => [c]
  | d :: L, c => if d.nm = c.nm then ⟨d.nm, d.k, d.nl && c.nl⟩ :: L else d :: bindC L c
/-- One argument at a column. -/
def argT (L : List Co) (b : Bool) (t : TmP) (c : Co) : Int × List Co :=
  if t.a = true then (0, L)
  else if (t.s.toList == []) = true then (if t.v.k = c.k ∨ (t.v.k = 0 ∧ c.nl = true) then (0, L) else (11, L))
  else match findC L t.s with
    | none => (0, if b = true then bindC L ⟨t.s, c.k, c.nl⟩ else L)
    | some d => if d.k = c.k then (0, if b = true then bindC L ⟨t.s, c.k, c.nl⟩ else L) else (11, L)
def argsT (b : Bool) : List Co → List TmP → List Co → Int × List Co
  | L, t :: ts, c :: cs => if (argT L b t c).1 = 0 then argsT b (argT L b t c).2 ts cs else argT L b t c
  | L, _, _ => (0, L)
/-- The columns of a relation, of the kinds S or the views U. -/
def relT (S U : List Sc) (n : ByteArray) : Option (List Co) := match colsOf S n with
  | some cs => some cs
  | none => (U.find? fun x => decide (x.nm = n)).map (·.cols)
def atomT (S U : List Sc) (L : List Co) (x : LiP) : Int × List Co := match relT S U x.s with
  | none => (20, L)
  | some cs => if x.args.length = cs.length then argsT (!x.n) L x.args cs else (9, L)
/-- Of which kind a term's values are. -/
def kindT (L : List Co) (t : TmP) : Int :=
  if t.a = true then 0 else if (t.s.toList == []) = true then t.v.k else match findC L t.s with
    | none => 0
    | some d => d.k
def cmpT (L : List Co) : List TmP → Int
  | [a, b] => if kindT L a ≠ kindT L b ∧ kindT L a ≠ 0 ∧ kindT L b ≠ 0 then 11 else 0
  | _ => 9
def litT (S U : List Sc) (L : List Co) (x : LiP) : Int × List Co := if x.o = 0 then atomT S U L x else (cmpT L x.args, L)
/-- Those of a body's literals that bind (or those that don't), one by one; the place and the number of the first error. -/
def passT (S U : List Sc) (b : Bool) : List Co → Nat → List LiP → List Co × Nat × Int
  | L, _, [] => (L, 0, 0)
  | L, i, x :: xs => if atomB x = b then (if (litT S U L x).1 = 0 then passT S U b (litT S U L x).2 (i + 1) xs else (L, i, (litT S U L x).1)) else passT S U b L (i + 1) xs
def knowT (S U : List Sc) (body : List LiP) : List Co × Nat × Int :=
  if (passT S U true [] 0 body).2.2 = 0 then passT S U false (passT S U true [] 0 body).1 0 body else passT S U true [] 0 body
/-- What is answered of the variables. -/
def varsT (S U : List Sc) (body : List LiP) : List Co × Nat × Int := if (knowT S U body).2.2 = 0 then ((knowT S U body).1, 0, 0) else ([], (knowT S U body).2)
def orC : Option Co → Co
  | none => ⟨⟨#[]⟩, 0, false⟩
  | some c => c
def ofF (L : List Co) (x : RuP) : Int :=
  if 1 < x.ag then match findC L x.ofv with
    | none => 12
    | some d => if d.k = 2 ∧ d.nl = false then 0 else 11
  else 0
def spaceF (L : List Co) (x : RuP) : Int := match x.head with
  | [] => 0
  | h :: _ => if x.k = 3 ∧ ¬ ((orC (findC L h)).k = 3 ∧ (orC (findC L h)).nl = false) then 11 else 0
/-- Why a head can not be told. -/
def headF (L : List Co) (x : RuP) : Int :=
  if x.head.any (fun h => (findC L h).isNone) = true then 12 else if ofF L x ≠ 0 then ofF L x else spaceF L x
def countB : ByteArray := ⟨#[99, 111, 117, 110, 116]⟩
def aggC (x : RuP) : List Co := if 1 < x.ag then [⟨x.ofv, 2, false⟩] else if x.ag = 1 then [⟨countB, 2, false⟩] else []
/-- What is answered of the head. -/
def headT (S U : List Sc) (x : RuP) : List Co × Int × Int :=
  if (knowT S U x.body).2.2 = 0 then (if headF (knowT S U x.body).1 x = 0 then (x.head.map (fun h => orC (findC (knowT S U x.body).1 h)) ++ aggC x, 0, 0) else ([], -1, headF (knowT S U x.body).1 x)) else ([], ((knowT S U x.body).2.1 : Int), (knowT S U x.body).2.2)

/-! ### names, each once -/
theorem findC_nm {L : List Co} {n : ByteArray} {c : Co} (h : findC L n = some c) : c.nm = n := by
  have := List.find?_some h
  exact of_decide_eq_true this
theorem findC_mem {L : List Co} {n : ByteArray} {c : Co} (h : findC L n = some c) : c ∈ L := List.mem_of_find?_eq_some h
theorem findC_none {L : List Co} {n : ByteArray} (h : findC L n = none) : ∀ c ∈ L, c.nm ≠ n := fun c hc e => by
  have := List.find?_eq_none.1 h c hc
  simp [e] at this
theorem findC_cons (d : Co) (L : List Co) (n : ByteArray) : findC (d :: L) n = if d.nm = n then some d else findC L n := by
  unfold findC
  rw [List.find?_cons]
  by_cases h : d.nm = n
  · rw [decide_eq_true h, if_pos h]
  · rw [decide_eq_false h, if_neg h]
/-- The column of a name behind a bind. -/
def bound1 (o : Option Co) (c : Co) : Co := match o with
  | none => c
  | some d => ⟨d.nm, d.k, d.nl && c.nl⟩
theorem findC_bind (c : Co) (n : ByteArray) : ∀ L : List Co, findC (bindC L c) n = if n = c.nm then some (bound1 (findC L c.nm) c) else findC L n
  | [] => by
    rw [bindC, findC_cons]
    by_cases h : n = c.nm
    · rw [if_pos h.symm, if_pos h]; rfl
    · rw [if_neg (fun e => h e.symm), if_neg h]
  | d :: L => by
    rw [bindC]
    by_cases hd : d.nm = c.nm
    · rw [if_pos hd, findC_cons, findC_cons, findC_cons, if_pos hd]
      by_cases h : n = c.nm
      · subst h
        rw [if_pos hd, if_pos rfl]
        rfl
      · rw [if_neg h, if_neg (fun e => h (e.symm.trans hd)), if_neg (fun e => h (e.symm.trans hd))]
    · rw [if_neg hd, findC_cons, findC_bind c n L, findC_cons, findC_cons, if_neg hd]
      by_cases h : n = c.nm
      · rw [if_pos h, if_pos h, if_neg (fun e => hd (e.trans h))]
      · rw [if_neg h, if_neg h]
theorem bindC_names (c : Co) : ∀ L : List Co, (bindC L c).map (·.nm) = if (findC L c.nm).isSome = true then L.map (·.nm) else L.map (·.nm) ++ [c.nm]
  | [] => rfl
  | d :: L => by
    rw [bindC, findC_cons]
    by_cases hd : d.nm = c.nm
    · rw [if_pos hd, if_pos hd]; simp
    · rw [if_neg hd, if_neg hd, List.map_cons, bindC_names c L]
      split <;> simp
theorem bindC_len (c : Co) (L : List Co) : (bindC L c).length = if (findC L c.nm).isSome = true then L.length else L.length + 1 := by
  have h := congrArg List.length (bindC_names c L)
  rw [List.length_map] at h
  rw [h]
  split <;> simp
theorem findC_some_of_mem {L : List Co} {n : ByteArray} (h : n ∈ L.map (·.nm)) : (findC L n).isSome = true := by
  obtain ⟨c, hc, rfl⟩ := List.mem_map.1 h
  unfold findC
  rw [List.find?_isSome]
  exact ⟨c, hc, by simp⟩
theorem bindC_nodup {L : List Co} (h : (L.map (·.nm)).Nodup) (c : Co) : ((bindC L c).map (·.nm)).Nodup := by
  rw [bindC_names]
  split
  · exact h
  · next hn =>
    rw [List.nodup_append]
    refine ⟨h, by simp, fun a ha b hb e => hn ?_⟩
    rw [List.mem_singleton] at hb
    subst e
    subst hb
    exact findC_some_of_mem ha
/-- Of names that are each once, the column of each is the one that stands there. -/
theorem findC_at : ∀ {L : List Co}, (L.map (·.nm)).Nodup → ∀ c ∈ L, findC L c.nm = some c
  | [], _, c, hc => absurd hc List.not_mem_nil
  | d :: L, h, c, hc => by
    rw [List.map_cons, List.nodup_cons] at h
    rw [findC_cons]
    rcases List.mem_cons.1 hc with rfl | hc
    · rw [if_pos rfl]
    · have hne : ¬ d.nm = c.nm := fun e => h.1 (by rw [e]; exact List.mem_map.2 ⟨c, hc, rfl⟩)
      rw [if_neg hne, findC_at h.2 c hc]
theorem all_at {L : List Co} (h : (L.map (·.nm)).Nodup) : (L.map (·.nm)).map (fun n => orC (findC L n)) = L := by
  rw [List.map_map]
  refine Eq.trans (List.map_congr_left (g := id) fun c hc => ?_) (List.map_id _)
  show orC (findC L c.nm) = c
  rw [findC_at h c hc]
  rfl
theorem argT_nodup {L : List Co} (h : (L.map (·.nm)).Nodup) (b : Bool) (t : TmP) (c : Co) : ((argT L b t c).2.map (·.nm)).Nodup := by
  have hb := bindC_nodup h (⟨t.s, c.k, c.nl⟩ : Co)
  unfold argT
  repeat' split
  all_goals first | exact h | exact hb
theorem argsT_nodup (b : Bool) : ∀ (ts : List TmP) (cs : List Co) {L : List Co}, (L.map (·.nm)).Nodup → ((argsT b L ts cs).2.map (·.nm)).Nodup
  | [], _, L, h => by unfold argsT; exact h
  | _ :: _, [], L, h => by unfold argsT; exact h
  | t :: ts, c :: cs, L, h => by
    have h1 := argT_nodup h b t c
    rw [argsT]
    split
    · exact argsT_nodup b ts cs h1
    · exact h1
theorem argT_len (L : List Co) (b : Bool) (t : TmP) (c : Co) : (argT L b t c).2.length ≤ L.length + 1 := by
  have hb := bindC_len (⟨t.s, c.k, c.nl⟩ : Co) L
  have hb2 : (bindC L ⟨t.s, c.k, c.nl⟩).length ≤ L.length + 1 := by rw [hb]; split <;> omega
  unfold argT
  repeat' split
  all_goals first | exact hb2 | exact Nat.le_succ _
theorem argT_sz {L : List Co} (b : Bool) (t : TmP) (c : Co) (h : ∀ d ∈ L, d.nm.size ≤ maxLen) (ht : t.s.size ≤ maxLen) : ∀ d ∈ (argT L b t c).2, d.nm.size ≤ maxLen := by
  have hn : ∀ n ∈ (bindC L ⟨t.s, c.k, c.nl⟩).map (·.nm), n.size ≤ maxLen := by
    rw [bindC_names]
    intro n hn
    split at hn
    · obtain ⟨d, hd, rfl⟩ := List.mem_map.1 hn
      exact h d hd
    · rcases List.mem_append.1 hn with hn | hn
      · obtain ⟨d, hd, rfl⟩ := List.mem_map.1 hn
        exact h d hd
      · rw [List.mem_singleton] at hn
        rw [hn]
        exact ht
  have hb : ∀ d ∈ bindC L ⟨t.s, c.k, c.nl⟩, d.nm.size ≤ maxLen := fun d hd => hn _ (List.mem_map.2 ⟨d, hd, rfl⟩)
  unfold argT
  repeat' split
  all_goals first | exact h | exact hb
theorem argsT_len (b : Bool) : ∀ (ts : List TmP) (cs L : List Co), (argsT b L ts cs).2.length ≤ L.length + ts.length
  | [], _, L => by unfold argsT; exact Nat.le_refl _
  | _ :: _, [], L => by unfold argsT; exact Nat.le_add_right _ _
  | t :: ts, c :: cs, L => by
    have h1 := argT_len L b t c
    rw [argsT, List.length_cons]
    split
    · have h2 := argsT_len b ts cs (argT L b t c).2
      omega
    · omega
theorem argsT_sz (b : Bool) : ∀ (ts : List TmP) (cs L : List Co), (∀ d ∈ L, d.nm.size ≤ maxLen) → (∀ t ∈ ts, t.s.size ≤ maxLen) → ∀ d ∈ (argsT b L ts cs).2, d.nm.size ≤ maxLen
  | [], _, L, h, _ => by unfold argsT; exact h
  | _ :: _, [], L, h, _ => by unfold argsT; exact h
  | t :: ts, c :: cs, L, h, ht => by
    have h1 := argT_sz b t c h (ht t (List.mem_cons_self ..))
    rw [argsT]
    split
    · exact argsT_sz b ts cs _ h1 (fun u hu => ht u (List.mem_cons_of_mem _ hu))
    · exact h1
/-- What a literal tells keeps what is asked of the columns. -/
structure GoodC (L : List Co) (m : Nat) : Prop where
  nd : (L.map (·.nm)).Nodup
  len : L.length ≤ m
  sz : ∀ d ∈ L, d.nm.size ≤ maxLen
theorem GoodC.nil : GoodC [] 0 := ⟨by simp, Nat.le_refl _, fun _ h => absurd h List.not_mem_nil⟩
theorem GoodC.lit {L : List Co} {m : Nat} (h : GoodC L m) (S U : List Sc) (x : LiP) (hx : ∀ t ∈ x.args, t.s.size ≤ maxLen) : GoodC (litT S U L x).2 (m + x.args.length) := by
  unfold litT atomT
  have h0 : GoodC L (m + x.args.length) := ⟨h.nd, by have := h.len; omega, h.sz⟩
  split
  · split
    · exact h0
    · next cs _ =>
      split
      · exact ⟨argsT_nodup _ _ _ h.nd, by have := argsT_len (!x.n) x.args cs L; have := h.len; omega, argsT_sz _ _ _ _ h.sz hx⟩
      · exact h0
  · exact h0

/-! ### one round of each loop -/
theorem argsT_step (b : Bool) (L : List Co) (ts : List TmP) (cs : List Co) (k : Nat) (t : TmP) (c : Co) (ht : ts[k]? = some t) (hc : cs[k]? = some c) :
    argsT b L (ts.drop k) (cs.drop k) = if (argT L b t c).1 = 0 then argsT b (argT L b t c).2 (ts.drop (k + 1)) (cs.drop (k + 1)) else argT L b t c := by
  rw [List.drop_eq_getElem_cons (List.getElem?_eq_some_iff.1 ht).1, List.drop_eq_getElem_cons (List.getElem?_eq_some_iff.1 hc).1, (List.getElem?_eq_some_iff.1 ht).2, (List.getElem?_eq_some_iff.1 hc).2, argsT]
theorem argsT_end (b : Bool) (L : List Co) (ts : List TmP) (cs : List Co) (k : Nat) (h : ts.length ≤ k) : argsT b L (ts.drop k) (cs.drop k) = (0, L) := by
  rw [List.drop_eq_nil_of_le h]
  unfold argsT
  rfl
theorem passT_step (S U : List Sc) (b : Bool) (L : List Co) (l : List LiP) (k : Nat) (x : LiP) (hx : l[k]? = some x) :
    passT S U b L k (l.drop k) = if atomB x = b then (if (litT S U L x).1 = 0 then passT S U b (litT S U L x).2 (k + 1) (l.drop (k + 1)) else (L, k, (litT S U L x).1)) else passT S U b L (k + 1) (l.drop (k + 1)) := by
  rw [List.drop_eq_getElem_cons (List.getElem?_eq_some_iff.1 hx).1, (List.getElem?_eq_some_iff.1 hx).2, passT]
theorem passT_end (S U : List Sc) (b : Bool) (L : List Co) (l : List LiP) (k : Nat) (h : l.length ≤ k) : passT S U b L k (l.drop k) = (L, 0, 0) := by
  rw [List.drop_eq_nil_of_le h]
  rfl
end
end Go.Proofs.Ythdjkagodccdbaa
namespace Go.Proofs.Ythdjkagodccdbaa
section
open Go.RowKit Go.Maps

/-- An element of a map is read as it is. -/
def RpC (v : Value) : Option (DataW Value × List MemPlace) := some (.held v, [])
theorem lawC : Keyed Try.prog 9 := string_keyed Try.underlying9
def noC : Value := .agg #[.string ⟨#[]⟩, .int .i64 0, .bool false]
theorem zeroC (w : World) : (zeroValue 49).run Try.prog w = .ok noC w := by kernel_rfl
theorem zeroW (w : World) : (zeroValue 35).run Try.prog w = .ok (.slice none 0 0) w := by kernel_rfl
/-- The map reads as these columns. -/
def RelC (D : DataW Value) (L : List Co) : Prop := (∀ b, D.atKey (kG b) (.held noC) = .held (orC (findC L b)).val) ∧ ∀ b, Maps.has D (kG b) = (findC L b).isSome
theorem RelC.empty : RelC (.map []) [] := ⟨fun _ => rfl, fun _ => rfl⟩
theorem RelC.put {D : DataW Value} {L L' : List Co} {key : ByteArray} {c : Co} (r : RelC D L) (ht : Tidy D) (hp : ∀ b, findC L' b = if b = key then some c else findC L b) : RelC (D.put (kG key) (.held c.val)) L' := by
  obtain ⟨r1, r2⟩ := r
  have hk : WideAt.IsKeyLit (kG key) := trivial
  refine ⟨fun b => ?_, fun b => ?_⟩
  · rw [hp b]
    by_cases e : b = key
    · subst e; rw [if_pos rfl, atKey_put_same ht.isMap hk]; rfl
    · rw [if_neg e, atKey_put_other (fun e2 => e (kG_inj e2)), r1 b]
  · rw [hp b]
    by_cases e : b = key
    · subst e; rw [has_put_same ht.isMap hk]; simp
    · rw [has_put_other (fun e2 => e (kG_inj e2)), r2 b]; simp [e]
/-- The map in block b holds these columns. -/
def ColM (W : World) (b : Nat) (L : List Co) (m : Nat) : Prop := ∃ (n : Nat) (D : DataW Value), n ≤ m ∧ W.ownsMap Try.prog 9 RpC b n D ∧ RelC D L
theorem ColM.block {W W' : World} {b m : Nat} {L : List Co} (h : ColM W b L m) (hb : W'.heap[b]? = W.heap[b]?) : ColM W' b L m := by
  obtain ⟨n, D, h1, ⟨es, clock, e1, e2⟩, h3⟩ := h
  exact ⟨n, D, h1, ⟨es, clock, hb.trans e1, e2⟩, h3⟩
theorem ColM.map {W : World} {b m : Nat} {L : List Co} (h : ColM W b L m) : ∃ es clock, W.heap[b]? = some (.map es clock) := by
  obtain ⟨n, D, h1, ⟨es, clock, e1, e2⟩, h3⟩ := h
  exact ⟨es, clock, e1⟩
theorem ColM.lt {W : World} {b m : Nat} {L : List Co} (h : ColM W b L m) : b < W.heap.size := by
  obtain ⟨es, clock, e⟩ := h.map
  exact (Array.getElem?_eq_some_iff.1 e).1
theorem colM_new (w : World) : ColM (w.alloc (.map #[] 0)) w.heap.size [] 0 := ⟨0, _, Nat.le_refl _, World.ownsMap_made _ _ _ _, RelC.empty⟩
set_option maxRecDepth 10000 in
theorem look_C {W : World} {b m : Nat} {L : List Co} (h : ColM W b L m) (key : ByteArray) (hk : key.size ≤ maxLen) :
    (Instr.lookup 86 (.map (some b)) (.string key) false).run Try.prog W = .ok (orC (findC L key)).val W := by
  obtain ⟨n, D, _, h3, h4⟩ := h
  obtain ⟨v, ps, hrun, hv⟩ := h3.lookup lawC Try.underlying86 (zeroC W) (zd := .held noC) (zp := []) rfl (Go.WideMaps.keyOf_string_mk Try.underlying9 hk)
  rw [hrun]
  have h5 := h4.1 key
  unfold kG at h5
  unfold RpC at hv
  rw [h5] at hv
  injection hv with hv
  injection hv with hv _
  injection hv with hv
  rw [hv]
set_option maxRecDepth 100000 in
theorem look_C2 {W : World} {b m : Nat} {L : List Co} (h : ColM W b L m) (key : ByteArray) (hk : key.size ≤ maxLen) :
    (Instr.lookup 86 (.map (some b)) (.string key) true).run Try.prog W = .ok (.tuple #[(orC (findC L key)).val, .bool (findC L key).isSome]) W := by
  obtain ⟨n, D, _, h3, h4⟩ := h
  obtain ⟨v, ps, hrun, hv⟩ := h3.look_ok (t := 86) lawC Try.underlying86 (zeroC W) (show RpC noC = some (.held noC, []) from rfl) (Go.WideMaps.keyOf_string_mk Try.underlying9 hk)
  have h6 := h4.2 key
  have h5 := h4.1 key
  unfold kG at h5 h6
  rw [h6] at hrun
  unfold RpC at hv
  rw [h5] at hv
  injection hv with hv
  injection hv with hv _
  injection hv with hv
  rw [hv] at hrun
  exact hrun
set_option maxRecDepth 100000 in
theorem put_C {W : World} {b m : Nat} {L L' : List Co} (h : ColM W b L m) (key : ByteArray) (hk : key.size ≤ maxLen) (hm : m ≤ 1000000) (c : Co) (hp : ∀ b, findC L' b = if b = key then some c else findC L b) :
    ∃ W', (Instr.mapUpdate 86 (.map (some b)) (.string key) c.val).run Try.prog W = .ok () W' ∧ W.grownBy W' (some b) ∧ ColM W' b L' (m + 1) := by
  obtain ⟨n, D, hn, h3, h4⟩ := h
  obtain ⟨W', hrun, ho, hg⟩ := h3.update (t := 86) (val := c.val) lawC Try.underlying86 (by unfold maxLen; omega) (Go.WideMaps.keyOf_string_mk Try.underlying9 hk) (show RpC c.val = some (.held c.val, []) from rfl)
  exact ⟨W', hrun, hg, _, _, by omega, ho, h4.put (h3.tidy lawC) hp⟩

/-! ### views -/
def findW (ls : List RS) (b : ByteArray) : Option RS := ls.find? fun x => decide (x.1 = b)
def vOf : Option RS → Value
  | none => .slice none 0 0
  | some x => x.2
def RelW (D : DataW Value) (ls : List RS) : Prop := (∀ b, D.atKey (kG b) (.held (.slice none 0 0)) = .held (vOf (findW ls b))) ∧ ∀ b, Maps.has D (kG b) = (findW ls b).isSome
theorem RelW.empty : RelW (.map []) [] := ⟨fun _ => rfl, fun _ => rfl⟩
theorem findW_snoc (ls : List RS) (x : RS) (b : ByteArray) : findW (ls ++ [x]) b = (findW ls b).or (if x.1 = b then some x else none) := by
  unfold findW
  rw [List.find?_append]
  congr 1
  rw [List.find?_cons]
  by_cases h : x.1 = b
  · rw [decide_eq_true h, if_pos h]
  · rw [decide_eq_false h, if_neg h]
    rfl
theorem RelW.put {D : DataW Value} {ls : List RS} {x : RS} (r : RelW D ls) (ht : Tidy D) (hx : findW ls x.1 = none) : RelW (D.put (kG x.1) (.held x.2)) (ls ++ [x]) := by
  obtain ⟨r1, r2⟩ := r
  have hk : WideAt.IsKeyLit (kG x.1) := trivial
  refine ⟨fun b => ?_, fun b => ?_⟩
  · rw [findW_snoc]
    by_cases e : x.1 = b
    · subst e; rw [if_pos rfl, hx, atKey_put_same ht.isMap hk]; rfl
    · rw [if_neg e, atKey_put_other (fun e2 => e (kG_inj e2).symm), r1 b, Option.or_none]
  · rw [findW_snoc]
    by_cases e : x.1 = b
    · subst e; rw [has_put_same ht.isMap hk, if_pos rfl, hx]; simp
    · rw [has_put_other (fun e2 => e (kG_inj e2).symm), r2 b, if_neg e, Option.or_none]
theorem RelW.skip {D : DataW Value} {ls : List RS} {x : RS} (r : RelW D ls) (hx : (findW ls x.1).isSome = true) : RelW D (ls ++ [x]) := by
  have h : ∀ b, findW (ls ++ [x]) b = findW ls b := by
    intro b
    rw [findW_snoc]
    by_cases e : x.1 = b
    · subst e
      obtain ⟨y, hy⟩ := Option.isSome_iff_exists.1 hx
      rw [hy]; rfl
    · rw [if_neg e, Option.or_none]
  exact ⟨fun b => by rw [h b]; exact r.1 b, fun b => by rw [h b]; exact r.2 b⟩
/-- The map in block b holds these views, of those of one name the first. -/
def ViewM (W : World) (b : Nat) (ls : List RS) (m : Nat) : Prop := ∃ (n : Nat) (D : DataW Value), n ≤ m ∧ W.ownsMap Try.prog 9 RpC b n D ∧ RelW D ls
theorem ViewM.block {W W' : World} {b m : Nat} {ls : List RS} (h : ViewM W b ls m) (hb : W'.heap[b]? = W.heap[b]?) : ViewM W' b ls m := by
  obtain ⟨n, D, h1, ⟨es, clock, e1, e2⟩, h3⟩ := h
  exact ⟨n, D, h1, ⟨es, clock, hb.trans e1, e2⟩, h3⟩
theorem ViewM.map {W : World} {b m : Nat} {ls : List RS} (h : ViewM W b ls m) : ∃ es clock, W.heap[b]? = some (.map es clock) := by
  obtain ⟨n, D, h1, ⟨es, clock, e1, e2⟩, h3⟩ := h
  exact ⟨es, clock, e1⟩
theorem ViewM.lt {W : World} {b m : Nat} {ls : List RS} (h : ViewM W b ls m) : b < W.heap.size := by
  obtain ⟨es, clock, e⟩ := h.map
  exact (Array.getElem?_eq_some_iff.1 e).1
theorem viewM_new (w : World) : ViewM (w.alloc (.map #[] 0)) w.heap.size [] 0 := ⟨0, _, Nat.le_refl _, World.ownsMap_made _ _ _ _, RelW.empty⟩
set_option maxRecDepth 100000 in
theorem look_W2 {W : World} {b m : Nat} {ls : List RS} (h : ViewM W b ls m) (key : ByteArray) (hk : key.size ≤ maxLen) :
    (Instr.lookup 85 (.map (some b)) (.string key) true).run Try.prog W = .ok (.tuple #[vOf (findW ls key), .bool (findW ls key).isSome]) W := by
  obtain ⟨n, D, _, h3, h4⟩ := h
  obtain ⟨v, ps, hrun, hv⟩ := h3.look_ok (t := 85) lawC Try.underlying85 (zeroW W) (show RpC (.slice none 0 0) = some (.held (.slice none 0 0), []) from rfl) (Go.WideMaps.keyOf_string_mk Try.underlying9 hk)
  have h6 := h4.2 key
  have h5 := h4.1 key
  unfold kG at h5 h6
  rw [h6] at hrun
  unfold RpC at hv
  rw [h5] at hv
  injection hv with hv
  injection hv with hv _
  injection hv with hv
  rw [hv] at hrun
  exact hrun
set_option maxRecDepth 100000 in
theorem put_W {W : World} {b m : Nat} {ls : List RS} (h : ViewM W b ls m) (x : RS) (hk : x.1.size ≤ maxLen) (hm : m ≤ 1000000) (hx : findW ls x.1 = none) :
    ∃ W', (Instr.mapUpdate 85 (.map (some b)) (.string x.1) x.2).run Try.prog W = .ok () W' ∧ W.grownBy W' (some b) ∧ ViewM W' b (ls ++ [x]) (m + 1) := by
  obtain ⟨n, D, hn, h3, h4⟩ := h
  obtain ⟨W', hrun, ho, hg⟩ := h3.update (t := 85) (val := x.2) lawC Try.underlying85 (by unfold maxLen; omega) (Go.WideMaps.keyOf_string_mk Try.underlying9 hk) (show RpC x.2 = some (.held x.2, []) from rfl)
  exact ⟨W', hrun, hg, _, _, by omega, ho, h4.put (h3.tidy lawC) hx⟩
theorem findW_of {w : World} {Q : Nat → Prop} : ∀ {ls : List RS} {U : List Sc}, ScR w Q ls U → ∀ n, (findW ls n = none ∧ U.find? (fun x => decide (x.nm = n)) = none) ∨ ∃ v x, findW ls n = some (n, v) ∧ U.find? (fun x => decide (x.nm = n)) = some x ∧ IsCols w Q v x.cols
  | [], [], _, n => .inl ⟨rfl, rfl⟩
  | a :: ls, b :: U, h, n => by
    have ih := findW_of h.2.2 n
    unfold findW at ih ⊢
    rw [List.find?_cons, List.find?_cons]
    by_cases e : b.nm = n
    · rw [decide_eq_true e, decide_eq_true (h.1.trans e)]
      refine .inr ⟨a.2, b, ?_, rfl, h.2.1⟩
      rw [← e, ← h.1]
    · rw [decide_eq_false e, decide_eq_false (fun e2 => e (h.1.symm.trans e2))]
      exact ih

/-! ### what changes -/
def MutK (g cb : Nat) (ov : Value) (k : Nat) : Prop := k = g ∨ k = cb ∨ ov.ownBlock = some k
structure OnlyK (g cb : Nat) (ov ov' : Value) (W W' : World) : Prop where
  b0 : Below 0 W W'
  keep : ∀ k, k < W.heap.size → ¬ MutK g cb ov k → W'.heap[k]? = W.heap[k]?
  mt : ∀ k, k < W.heap.size → MutK g cb ov' k → MutK g cb ov k
theorem OnlyK.refl (g cb : Nat) (ov : Value) (W : World) : OnlyK g cb ov ov W W := ⟨Below.refl _ _, fun _ _ _ => rfl, fun _ _ h => h⟩
theorem OnlyK.of_below {g cb : Nat} {ov : Value} {W W' : World} (h : Below W.heap.size W W') : OnlyK g cb ov ov W W' := ⟨h.mono (Nat.zero_le _), fun k hk _ => h.block k hk, fun _ _ h => h⟩
theorem OnlyK.trans {g cb : Nat} {ov ov1 ov2 : Value} {W W1 W2 : World} (h : OnlyK g cb ov ov1 W W1) (h' : OnlyK g cb ov1 ov2 W1 W2) : OnlyK g cb ov ov2 W W2 :=
  ⟨h.b0.trans h'.b0, fun k hk hn => (h'.keep k (Nat.lt_of_lt_of_le hk h.b0.size) (fun hm => hn (h.mt k hk hm))).trans (h.keep k hk hn), fun k hk hm => h.mt k hk (h'.mt k (Nat.lt_of_lt_of_le hk h.b0.size) hm)⟩
theorem OnlyK.setG (g cb i : Nat) (ov : Value) (W : World) (v : Value) : OnlyK g cb ov ov W (W.setCell ⟨g, i, none⟩ v) :=
  ⟨(Below.refl 0 W).setCell (p := ⟨g, i, none⟩) (Nat.zero_le _) v, fun k _ hn => Below.heap_setCell W ⟨g, i, none⟩ v k (fun e => hn (.inl e)), fun _ _ h => h⟩
theorem OnlyK.app {g cb : Nat} {ov v' : Value} {W W' : World} (h : W.grownBy W' ov.ownBlock) (hv : v'.ownBlock = ov.ownBlock ∨ v'.ownBlock = some W.heap.size) : OnlyK g cb ov v' W W' :=
  ⟨⟨h.os, h.tape, h.output, h.size, fun _ hk => absurd hk (Nat.not_lt_zero _)⟩, fun k hk hn => h.block k hk (fun e => hn (.inr (.inr e.symm))), fun k hk hm => by
    rcases hm with hm | hm | hm
    · exact .inl hm
    · exact .inr (.inl hm)
    · rcases hv with e | e
      · exact .inr (.inr (e.symm.trans hm))
      · rw [e] at hm
        injection hm with hm
        omega⟩
theorem OnlyK.map {g cb : Nat} {ov : Value} {W W' : World} (h : W.grownBy W' (some cb)) : OnlyK g cb ov ov W W' :=
  ⟨⟨h.os, h.tape, h.output, h.size, fun _ hk => absurd hk (Nat.not_lt_zero _)⟩, fun j hk hn => h.block j hk (fun e => hn (.inr (.inl (Option.some.inj e)))), fun _ _ h => h⟩
theorem OnlyK.below {g cb : Nat} {ov ov' : Value} {W W' : World} (h : OnlyK g cb ov ov' W W') {B : Nat} (hB : B ≤ W.heap.size) (hM : ∀ k, MutK g cb ov k → B ≤ k) : Below B W W' :=
  ⟨h.b0.os, h.b0.tape, h.b0.output, h.b0.size, fun k hk => h.keep k (Nat.lt_of_lt_of_le hk hB) (fun hm => by have := hM k hm; omega)⟩
theorem OnlyK.keepQ {g cb : Nat} {ov ov' : Value} {W W' : World} (h : OnlyK g cb ov ov' W W') {Q : Nat → Prop} (hq : ∀ k, Q k → k < W.heap.size → ¬ MutK g cb ov k) : KeepQ Q W W' := fun j hk hl => h.keep j hl (hq j hk hl)

/-- All that is known lies in memory, in blocks from base on; what it was asked of lies below. -/
structure KnowAt (base : Nat) (W : World) (g s vb cb : Nat) (ov : Value) (S : List Sc) (ls : List RS) (U : List Sc) (L : List Co) (m : Nat) : Prop where
  box : W.heap[g]? = some (.cells #[.pointer (some ⟨s, 0, none⟩), .map (some vb), .map (some cb), ov] 88 (0, 0))
  set : SetIs W (fun k => k < base) s S
  vws : ∃ j, ViewM W vb ls j
  vls : ScR W (fun k => k < base) ls U
  cls : ColM W cb L m
  ord : OwnSt W base ov (L.map (·.nm))
  good : GoodC L m
  og : ov.ownBlock ≠ some g
  bg : base ≤ g
  bc : base ≤ cb
  bv : base ≤ vb
  vc : vb ≠ cb
theorem KnowAt.gl {base : Nat} {W : World} {g s vb cb : Nat} {ov : Value} {S : List Sc} {ls : List RS} {U : List Sc} {L : List Co} {m : Nat} (h : KnowAt base W g s vb cb ov S ls U L m) : g < W.heap.size := (Array.getElem?_eq_some_iff.1 h.box).1
theorem KnowAt.gc {base : Nat} {W : World} {g s vb cb : Nat} {ov : Value} {S : List Sc} {ls : List RS} {U : List Sc} {L : List Co} {m : Nat} (h : KnowAt base W g s vb cb ov S ls U L m) : g ≠ cb := fun e => by
  obtain ⟨es, clock, hm⟩ := h.cls.map
  have hb := h.box
  rw [e, hm] at hb
  cases hb
theorem KnowAt.gv {base : Nat} {W : World} {g s vb cb : Nat} {ov : Value} {S : List Sc} {ls : List RS} {U : List Sc} {L : List Co} {m : Nat} (h : KnowAt base W g s vb cb ov S ls U L m) : g ≠ vb := fun e => by
  obtain ⟨j, hj⟩ := h.vws
  obtain ⟨es, clock, hm⟩ := hj.map
  have hb := h.box
  rw [e, hm] at hb
  cases hb
theorem own_notMap {W : World} {base : Nat} {ov : Value} {ss : List ByteArray} (h : OwnSt W base ov ss) {b : Nat} (hb : ∃ es clock, W.heap[b]? = some (.map es clock)) : ov.ownBlock ≠ some b := by
  obtain ⟨es, clock, hb⟩ := hb
  rcases h.2 with ⟨hv, _⟩ | ⟨g, cap, cur, hv, _, hg, _⟩
  · rw [hv]
    simp [Value.ownBlock]
  · rw [hv]
    intro e
    have e2 : g = b := by simpa [Value.ownBlock] using e
    subst e2
    rw [hb] at hg
    cases hg
theorem KnowAt.mt {base : Nat} {W : World} {g s vb cb : Nat} {ov : Value} {S : List Sc} {ls : List RS} {U : List Sc} {L : List Co} {m : Nat} (h : KnowAt base W g s vb cb ov S ls U L m) : ∀ k, MutK g cb ov k → base ≤ k ∧ k < W.heap.size := fun k hk => by
  rcases hk with rfl | rfl | hk
  · exact ⟨h.bg, h.gl⟩
  · exact ⟨h.bc, h.cls.lt⟩
  · exact h.ord.lt k hk
theorem KnowAt.below {base : Nat} {W W' : World} {g s vb cb : Nat} {ov : Value} {S : List Sc} {ls : List RS} {U : List Sc} {L : List Co} {m : Nat} (h : KnowAt base W g s vb cb ov S ls U L m) (hb : Below W.heap.size W W') : KnowAt base W' g s vb cb ov S ls U L m :=
  ⟨(hb.block g h.gl).trans h.box, h.set.below hb, by obtain ⟨j, hj⟩ := h.vws; exact ⟨j, hj.block (hb.block vb hj.lt)⟩, h.vls.keep (Below.keepQ hb _), h.cls.block (hb.block cb h.cls.lt), h.ord.below hb, h.good, h.og, h.bg, h.bc, h.bv, h.vc⟩
theorem four_cells {W : World} {g : Nat} {a b c d : Value} {T : TypeId} (h : W.heap[g]? = some (.cells #[a, b, c, d] T (0, 0))) : W.cell? ⟨g, 0, none⟩ = some a ∧ W.cell? ⟨g, 1, none⟩ = some b ∧ W.cell? ⟨g, 2, none⟩ = some c ∧ W.cell? ⟨g, 3, none⟩ = some d :=
  ⟨cell_of_row _ g 0 _ _ (0, 0) h, cell_of_row _ g 1 _ _ (0, 0) h, cell_of_row _ g 2 _ _ (0, 0) h, cell_of_row _ g 3 _ _ (0, 0) h⟩

/-! ### small calls -/
set_option maxHeartbeats 1000000 in
theorem t_isVar (t : TmP) (w : World) : Calls Try.prog 82 #[t.val] w fun e w' => e = .returned (.bool (isV t)) ∧ Below w.heap.size w w' := by
  obtain ⟨s, a, ⟨vk, vf, vn, vt⟩⟩ := t
  have h0 := heap_alloc_new w (.cells #[.string s, .bool a, .int .i64 vk, .bool vf, .int .i64 vn, .string vt] 84)
  have n0 := cell_of_row _ w.heap.size 0 _ _ (0, 0) h0
  have n1 := cell_of_row _ w.heap.size 1 _ _ (0, 0) h0
  have HI : Hid (isV ⟨s, a, ⟨vk, vf, vn, vt⟩⟩ = (!a && !(s.toList == []))) := Lib.hid rfl
  generalize isV ⟨s, a, ⟨vk, vf, vn, vt⟩⟩ = q at *
  clear h0
  cases a with
  | true =>
    go_enter Try.func82, Try.ntmps82
    go_wp2
    go_ret
    exact ⟨by rw [HI.out]; rfl, one_new _ _⟩
  | false =>
    rcases Bool.eq_false_or_eq_true (s.toList == []) with hs | hs
    · have hn : (s.toList != []) = false := by rw [bne, hs]; rfl
      go_enter Try.func82, Try.ntmps82
      go_wp2
      go_ret
      exact ⟨by rw [HI.out, hs]; rfl, one_new _ _⟩
    · have hn : (s.toList != []) = true := by rw [bne, hs]; rfl
      go_enter Try.func82, Try.ntmps82
      go_wp2
      go_ret
      exact ⟨by rw [HI.out, hs]; rfl, one_new _ _⟩
set_option maxHeartbeats 1000000 in
theorem t_binds (x : LmG) (w : World) : Calls Try.prog 69 #[x.val] w fun e w' => e = .returned (.bool (atomB x.li)) ∧ Below w.heap.size w w' := by
  obtain ⟨n, s, A, c, args, o⟩ := x
  have h0 := heap_alloc_new w (.cells #[.bool n, .string s, .slice A args.length c, .int .i64 o] 46)
  have n0 := cell_of_row _ w.heap.size 0 _ _ (0, 0) h0
  have n3 := cell_of_row _ w.heap.size 3 _ _ (0, 0) h0
  have HI : Hid (atomB (LmG.li ⟨n, s, A, c, args, o⟩) = (decide (o = 0) && !n)) := Lib.hid rfl
  generalize atomB (LmG.li ⟨n, s, A, c, args, o⟩) = q at *
  clear h0
  by_cases ho : o = 0
  · have bo : (o == 0) = true := by simpa using ho
    go_enter Try.func69, Try.ntmps69
    go_wp2
    go_ret
    exact ⟨by rw [HI.out, decide_eq_true ho]; rfl, one_new _ _⟩
  · have bo : (o == 0) = false := by simpa using ho
    go_enter Try.func69, Try.ntmps69
    go_wp2
    go_ret
    exact ⟨by rw [HI.out, decide_eq_false ho]; rfl, one_new _ _⟩
set_option maxHeartbeats 1000000 in
theorem t_ofVar (r : RuG) (w : World) : Calls Try.prog 33 #[.agg r.cells] w fun e w' => e = .returned (.bool (decide (1 < r.ag))) ∧ Below w.heap.size w w' := by
  obtain ⟨k0, nm, hA, hc, head, ag, ofv, lim, bA, bc, body⟩ := r
  have h0 := heap_alloc_new w (.cells #[.int .i64 k0, .string nm, .slice hA head.length hc, .int .i64 ag, .string ofv, .int .i64 lim, .slice bA body.length bc] 27)
  have n3 := cell_of_row _ w.heap.size 3 _ _ (0, 0) h0
  clear h0
  show Calls Try.prog 33 #[.agg #[.int .i64 k0, .string nm, .slice hA head.length hc, .int .i64 ag, .string ofv, .int .i64 lim, .slice bA body.length bc]] w fun e w' => e = .returned (.bool (decide (1 < ag))) ∧ Below w.heap.size w w'
  go_enter Try.func33, Try.ntmps33
  go_wp2
  go_ret
  exact ⟨rfl, one_new _ _⟩
end
end Go.Proofs.Ythdjkagodccdbaa
