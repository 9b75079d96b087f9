/-
  Rules in memory as layer 15 sees them; the variables that atoms bind, as a plain function; sets of names in a map: have, put; small calls.
  Condition: names no longer than they can be.
  Sets of names: put; whether a term is a variable, a literal an atom; has of the document; lists of texts that are alike.
  Condition: names no longer than they can be; lists of no more than a million.
-/
import Derived.Maps.OwnSet
import Derived.Maps.OwnOps
import Derived.Test.YtmkejlhkipngnaaM18
import Derived.Test.YtmkejlhkipngnaaM23
import Derived.Test.YtmkejlhkipngnaaM25
namespace Go.Proofs.Ytmkejlhkipngnaa
section
open Go.RowKit Go.Maps

/-- A literal as it lies anywhere, with its terms. -/
structure LmG where
  n : Bool
  s : ByteArray
  A : Option Addr
  c : Nat
  args : List TmP
  o : Int
abbrev LmG.cells (x : LmG) : List Value := [.bool x.n, .string x.s, .slice x.A x.args.length x.c, .int .i64 x.o]
abbrev LmG.val (x : LmG) : Value := .agg #[.bool x.n, .string x.s, .slice x.A x.args.length x.c, .int .i64 x.o]
abbrev LmG.li (x : LmG) : LiP := ⟨x.n, x.s, x.args, x.o⟩
def LgsAt (W : World) (A : Option Addr) (l : List LmG) : Prop := ElsAt LmG.cells 4 W A l ∧ ∀ x ∈ l, ElsAt TmP.cells 6 W x.A x.args
theorem LgsAt.below {W W' : World} {A : Option Addr} {l : List LmG} (h : LgsAt W A l) (hb : Below W.heap.size W W') : LgsAt W' A l := ⟨h.1.below hb, fun x hx => (h.2 x hx).below hb⟩
/-- A rule as it lies anywhere. -/
structure RuG where
  k : Int
  nm : ByteArray
  hA : Option Addr
  hc : Nat
  head : List ByteArray
  ag : Int
  ofv : ByteArray
  lim : Int
  bA : Option Addr
  bc : Nat
  body : List LmG
abbrev RuG.cells (r : RuG) : Array Value := #[.int .i64 r.k, .string r.nm, .slice r.hA r.head.length r.hc, .int .i64 r.ag, .string r.ofv, .int .i64 r.lim, .slice r.bA r.body.length r.bc]
def RuG.Ok (W : World) (r : RuG) : Prop := ElsAt strC 1 W r.hA r.head ∧ LgsAt W r.bA r.body
theorem RuG.Ok.below {W W' : World} {r : RuG} (h : r.Ok W) (hb : Below W.heap.size W W') : r.Ok W' := ⟨h.1.below hb, h.2.below hb⟩
/-- A rule of which not very much is to be read. -/
def RuG.Sml (r : RuG) : Prop := r.head.length ≤ 200 ∧ r.body.length ≤ 41 ∧ (∀ s ∈ r.head, s.size ≤ maxLen) ∧ r.ofv.size ≤ maxLen ∧ ∀ x ∈ r.body, x.args.length ≤ 5000 ∧ ∀ t ∈ x.args, t.s.size ≤ maxLen

theorem at_add (a : Addr) (i : Nat) : a.add (i + 1) = { block := a.block, off := a.off + (i + 1) } := by simp [Addr.add]
/-- A literal's cells. -/
theorem els_L {W : World} {A : Option Addr} {l : List LmG} {i : Nat} {x : LmG} (h : ElsAt LmG.cells 4 W A l) (hi : l[i]? = some x) :
    ∃ a : Addr, A = some a ∧ W.cell? (a.add (i * 4)) = some (.bool x.n) ∧ W.cell? { block := (a.add (i * 4)).block, off := (a.add (i * 4)).off + 1 } = some (.string x.s) ∧ W.cell? { block := (a.add (i * 4)).block, off := (a.add (i * 4)).off + 2 } = some (.slice x.A x.args.length x.c) ∧ W.cell? { block := (a.add (i * 4)).block, off := (a.add (i * 4)).off + 3 } = some (.int .i64 x.o) := by
  obtain ⟨a, ha, hc⟩ := h i x hi
  have h0 := hc 0 _ rfl
  have h1 := hc 1 _ rfl
  have h2 := hc 2 _ rfl
  have h3 := hc 3 _ rfl
  rw [at_add] at h1 h2 h3
  exact ⟨a, ha, by simpa [Addr.add] using h0, h1, h2, h3⟩
/-- A term's cells. -/
theorem els_T {W : World} {A : Option Addr} {l : List TmP} {i : Nat} {x : TmP} (h : ElsAt TmP.cells 6 W A l) (hi : l[i]? = some x) :
    ∃ a : Addr, A = some a ∧ W.cell? (a.add (i * 6)) = some (.string x.s) ∧ W.cell? { block := (a.add (i * 6)).block, off := (a.add (i * 6)).off + 1 } = some (.bool x.a) ∧ W.cell? { block := (a.add (i * 6)).block, off := (a.add (i * 6)).off + 2 } = some (.int .i64 x.v.k) ∧ W.cell? { block := (a.add (i * 6)).block, off := (a.add (i * 6)).off + 3 } = some (.bool x.v.f) ∧
      W.cell? { block := (a.add (i * 6)).block, off := (a.add (i * 6)).off + 4 } = some (.int .i64 x.v.n) ∧ W.cell? { block := (a.add (i * 6)).block, off := (a.add (i * 6)).off + 5 } = some (.string x.v.t) := by
  obtain ⟨a, ha, hc⟩ := h i x hi
  have h0 := hc 0 _ rfl
  have h1 := hc 1 _ rfl
  have h2 := hc 2 _ rfl
  have h3 := hc 3 _ rfl
  have h4 := hc 4 _ rfl
  have h5 := hc 5 _ rfl
  rw [at_add] at h1 h2 h3 h4 h5
  exact ⟨a, ha, by simpa [Addr.add] using h0, h1, h2, h3, h4, h5⟩
/-- A text's cell. -/
theorem els_S {W : World} {A : Option Addr} {l : List ByteArray} {i : Nat} {x : ByteArray} (h : ElsAt strC 1 W A l) (hi : l[i]? = some x) : ∃ a : Addr, A = some a ∧ W.cell? (a.add i) = some (.string x) := by
  obtain ⟨a, ha, hc⟩ := h i x hi
  have h0 := hc 0 _ rfl
  rw [Nat.mul_one] at h0
  exact ⟨a, ha, by simpa [Addr.add] using h0⟩

/-! ### what atoms bind -/
def isV (t : TmP) : Bool := !t.a && !(t.s.toList == [])
def stepT (out : List ByteArray) (t : TmP) : List ByteArray := if (isV t && !hasX t.s out) = true then out ++ [t.s] else out
def stepL (out : List ByteArray) (x : LiP) : List ByteArray := if atomB x = true then x.args.foldl stepT out else out
/-- The variables that atoms bind. -/
def bndL (b : List LiP) : List ByteArray := b.foldl stepL []
theorem fold_next {α β : Type} (f : β → α → β) (l : List α) (k : Nat) (x : α) (o : β) (h : l[k]? = some x) : (l.take (k + 1)).foldl f o = f ((l.take k).foldl f o) x := by
  rw [List.take_add_one, h, Option.toList_some, List.foldl_append]
  rfl
theorem stepT_len (out : List ByteArray) (t : TmP) : (stepT out t).length ≤ out.length + 1 := by
  unfold stepT
  split
  · rw [List.length_append]; exact Nat.le_refl _
  · omega
theorem foldT_len : ∀ (l : List TmP) (out : List ByteArray), (l.foldl stepT out).length ≤ out.length + l.length
  | [], _ => Nat.le_refl _
  | t :: l, out => by
    have h1 := stepT_len out t
    have h2 := foldT_len l (stepT out t)
    rw [List.foldl_cons, List.length_cons]
    omega
theorem stepL_len (out : List ByteArray) (x : LiP) (h : x.args.length ≤ 5000) : (stepL out x).length ≤ out.length + 5000 := by
  unfold stepL
  split
  · have := foldT_len x.args out
    omega
  · omega
theorem foldL_len : ∀ (l : List LiP) (out : List ByteArray), (∀ x ∈ l, x.args.length ≤ 5000) → (l.foldl stepL out).length ≤ out.length + l.length * 5000
  | [], _, _ => by simp
  | x :: l, out, h => by
    have h1 := stepL_len out x (h x (List.mem_cons_self ..))
    have h2 := foldL_len l (stepL out x) (fun y hy => h y (List.mem_cons_of_mem _ hy))
    rw [List.foldl_cons, List.length_cons]
    omega

/-! ### sets of names -/
def kG (b : ByteArray) : Lit := .string b.data.toList
theorem kG_inj {a b : ByteArray} (h : kG a = kG b) : a = b := by
  unfold kG at h
  injection h with h
  obtain ⟨⟨l⟩⟩ := a
  obtain ⟨⟨l'⟩⟩ := b
  simp only at h
  rw [h]
theorem lawG : Keyed Try.prog 9 := string_keyed Try.underlying9
theorem zeroG (w : World) : (zeroValue 66).run Try.prog w = .ok (.agg #[]) w := by kernel_rfl
theorem undG : Try.prog.underlying 45 = some (.map 9 66) := Try.underlying45
/-- The map in block b has just these names. -/
def SetG (W : World) (b : Nat) (ss : List ByteArray) (m : Nat) : Prop := ∃ (n : Nat) (D : DataW Value), n ≤ m ∧ W.ownsMap Try.prog 9 unitElem b n D ∧ ∀ s, Maps.has D (kG s) = hasX s ss
theorem SetG.block {W W' : World} {b m : Nat} {ss : List ByteArray} (h : SetG W b ss m) (hb : W'.heap[b]? = W.heap[b]?) : SetG W' b ss m := by
  obtain ⟨n, D, h1, ⟨es, clock, e1, e2⟩, h3⟩ := h
  exact ⟨n, D, h1, ⟨es, clock, hb.trans e1, e2⟩, h3⟩
theorem SetG.lt {W : World} {b m : Nat} {ss : List ByteArray} (h : SetG W b ss m) : b < W.heap.size := by
  obtain ⟨n, D, h1, ⟨es, clock, e1, e2⟩, h3⟩ := h
  exact (Array.getElem?_eq_some_iff.1 e1).1
theorem hasX_app (s t : ByteArray) (ss : List ByteArray) : hasX s (ss ++ [t]) = (decide (s = t) || hasX s ss) := by
  rw [Bool.eq_iff_iff, Bool.or_eq_true, decide_eq_true_eq, hasX_iff, hasX_iff, List.mem_append, List.mem_singleton]
  exact Or.comm

set_option maxHeartbeats 1000000 in
theorem g_have {W : World} {b m : Nat} {ss : List ByteArray} (h : SetG W b ss m) (s : ByteArray) (hs : s.size ≤ maxLen) :
    Calls Try.prog 17 #[.map (some b), .string s] W fun e W' => e = .returned (.bool (hasX s ss)) ∧ Below W.heap.size W W' := by
  obtain ⟨n, D, h1, h2, h3⟩ := h
  have HO := Lib.hid h2
  have HK := Lib.hid (Go.WideMaps.keyOf_string_mk (P := Try.prog) Try.underlying9 hs)
  have HH := Lib.hid (h3 s)
  clear h1 h2 h3 hs
  go_enter Try.func17, Try.ntmps17
  go_wp2_with (at_lookup; refine wpList_lookup_own_unit _ rfl _ _ 45 rfl 9 66 lawG undG (zeroG _) b n D rfl HO.out _ (kG s) rfl HK.out ?_; rw [HH.out])
  go_ret
  exact ⟨rfl, one_new _ _⟩
end
end Go.Proofs.Ytmkejlhkipngnaa
namespace Go.Proofs.Ytmkejlhkipngnaa
section
open Go.RowKit Go.Maps

theorem els_one {W : World} {b : Nat} {s : ByteArray} {T : TypeId} (h : W.heap[b]? = some (.cells #[.string s] T (0, 0))) : ElsAt strC 1 W (some ⟨b, 0, none⟩) [s] := by
  intro i x hi
  match i, hi with
  | 0, hi =>
    have e : s = x := by simpa using hi
    subst e
    refine ⟨_, rfl, fun j u hj => ?_⟩
    have h1 : j < 1 := (List.getElem?_eq_some_iff.1 hj).1
    obtain rfl : j = 0 := by omega
    rw [add_add, cell_of_row _ b (0 * 1 + 0) _ _ (0, 0) h]
    exact hj
set_option maxRecDepth 10000 in
set_option maxHeartbeats 2000000 in
theorem g_put {W : World} {b m : Nat} {ss : List ByteArray} (h : SetG W b ss m) (hm : m ≤ 1000000) (ts : List ByteArray) (A : Option Addr) (c : Nat) (hl : ts.length ≤ 1000000) (ht : ElsAt strC 1 W A ts) (hsz : ∀ s ∈ ts, s.size ≤ maxLen) (hA : ∀ a, A = some a → a.block ≠ b) :
    Calls Try.prog 15 #[.map (some b), .slice A ts.length c] W fun e W' => e = .returned (.tuple #[]) ∧ SetG W' b (ss ++ ts) (m + ts.length) ∧ W.grownBy W' (some b) := by
  have HS := Lib.hid h
  have HT := Lib.hid ht
  have HZ := Lib.hid hsz
  have HA := Lib.hid hA
  clear h ht hsz hA
  go_enter Try.func15, Try.ntmps15
  go_wp2
  go_loopw [8] (fun i wr => ∃ k : Nat, i = .int .i64 k ∧ k ≤ ts.length ∧ SetG wr b (ss ++ ts.take k) (m + k) ∧ W.grownBy wr (some b)) (fun i _ => ts.length - (intOf i).toNat)
  case atStart => exact ⟨0, rfl, Nat.zero_le _, by simpa using HS.out, World.grownBy.refl _ _⟩
  case round =>
    obtain ⟨k, rfl, hk, hset, hgr⟩ := hrel
    have HST := Lib.hid hset
    have HG := Lib.hid hgr
    by_cases hlt : k < ts.length
    · obtain ⟨x, hx⟩ : ∃ x, ts[k]? = some x := ⟨_, List.getElem?_eq_getElem hlt⟩
      obtain ⟨a, hAa, hc⟩ := els_S HT.out hx
      subst hAa
      have hc' : wr.cell? (a.add k) = some (.string x) := by
        have hblt := World.block_lt_of_cell? W _ hc
        have hbb : (a.add k).block = a.block := by unfold Addr.add; split <;> rfl
        exact (World.cell?_of_block (w := W) (hgr.block _ hblt (fun e => HA.out a rfl (by injection e with e; rw [← e, hbb])))).trans hc
      have hxs := HZ.out x (List.mem_of_getElem? hx)
      obtain ⟨n, D, h1, h2, h3⟩ := hset
      have HO := Lib.hid h2
      have HK := Lib.hid (Go.WideMaps.keyOf_string_mk (P := Try.prog) Try.underlying9 hxs)
      have HX := Lib.hid hx
      have H3 := Lib.hid h3
      have hn : n < maxLen := by unfold maxLen; omega
      clear hgr hx hc hxs h2 h3
      go_wp2_with (at_mapUpdate; refine wpList_mapUpdate_own _ rfl _ _ _ 45 rfl 9 66 lawG undG unitElem b n D rfl HO.out hn _ _ (kG x) rfl rfl HK.out (.agg []) [] unitElem_mk ?_; intro w5 hown5 hgrow5)
      go_roundw
      case rel =>
        refine ⟨k + 1, by go_num, by omega, ⟨n + 1, _, by omega, hown5, fun s => ?_⟩, HG.out.trans hgrow5⟩
        rw [List.take_add_one, HX.out, Option.toList_some, ← List.append_assoc, hasX_app, ← H3.out s]
        by_cases e : s = x
        · subst e
          rw [has_put_same (HO.out.tidy lawG).isMap (show WideAt.IsKeyLit (kG s) from trivial)]
          simp
        · rw [has_put_other (fun e2 => e (kG_inj e2)), decide_eq_false e, Bool.false_or]
      case measure => simp [intOf]; omega
    · have he : ts.take k = ts := List.take_of_length_le (by omega)
      rw [he] at hset
      have hkk : k = ts.length := by omega
      rw [hkk] at hset
      have HF := Lib.hid hset
      clear he hset hgr hkk
      go_wp2
      go_end0
      exact ⟨rfl, HF.out, HG.out⟩

set_option maxHeartbeats 1000000 in
theorem g_isVar (t : TmP) (w : World) : Calls Try.prog 18 #[t.val] w fun e w' => e = .returned (.bool (isV t)) ∧ Below w.heap.size w w' := by
  obtain ⟨s, a, ⟨vk, vf, vn, vt⟩⟩ := t
  have h0 := heap_alloc_new w (.cells #[.string s, .bool a, .int .i64 vk, .bool vf, .int .i64 vn, .string vt] 38)
  have n0 := cell_of_row _ w.heap.size 0 _ _ (0, 0) h0
  have n1 := cell_of_row _ w.heap.size 1 _ _ (0, 0) h0
  have HI : Hid (isV ⟨s, a, ⟨vk, vf, vn, vt⟩⟩ = (!a && !(s.toList == []))) := Lib.hid rfl
  generalize isV ⟨s, a, ⟨vk, vf, vn, vt⟩⟩ = q at *
  clear h0
  cases a with
  | true =>
    go_enter Try.func18, Try.ntmps18
    go_wp2
    go_ret
    exact ⟨by rw [HI.out]; rfl, one_new _ _⟩
  | false =>
    rcases Bool.eq_false_or_eq_true (s.toList == []) with hs | hs
    · have hn : (s.toList != []) = false := by rw [bne, hs]; rfl
      go_enter Try.func18, Try.ntmps18
      go_wp2
      go_ret
      exact ⟨by rw [HI.out, hs]; rfl, one_new _ _⟩
    · have hn : (s.toList != []) = true := by rw [bne, hs]; rfl
      go_enter Try.func18, Try.ntmps18
      go_wp2
      go_ret
      exact ⟨by rw [HI.out, hs]; rfl, one_new _ _⟩

set_option maxHeartbeats 1000000 in
theorem g_binds (x : LmG) (w : World) : Calls Try.prog 22 #[x.val] w fun e w' => e = .returned (.bool (atomB x.li)) ∧ Below w.heap.size w w' := by
  obtain ⟨n, s, A, c, args, o⟩ := x
  have h0 := heap_alloc_new w (.cells #[.bool n, .string s, .slice A args.length c, .int .i64 o] 41)
  have n0 := cell_of_row _ w.heap.size 0 _ _ (0, 0) h0
  have n3 := cell_of_row _ w.heap.size 3 _ _ (0, 0) h0
  have HI : Hid (atomB (LmG.li ⟨n, s, A, c, args, o⟩) = (decide (o = 0) && !n)) := Lib.hid rfl
  generalize atomB (LmG.li ⟨n, s, A, c, args, o⟩) = q at *
  clear h0
  by_cases ho : o = 0
  · have bo : (o == 0) = true := by simpa using ho
    go_enter Try.func22, Try.ntmps22
    go_wp2
    go_ret
    exact ⟨by rw [HI.out, decide_eq_true ho]; rfl, one_new _ _⟩
  · have bo : (o == 0) = false := by simpa using ho
    go_enter Try.func22, Try.ntmps22
    go_wp2
    go_ret
    exact ⟨by rw [HI.out, decide_eq_false ho]; rfl, one_new _ _⟩
set_option maxHeartbeats 1000000 in
theorem r_atom15 (x : LmG) (w : World) : Calls Try.prog 20 #[x.val] w fun e w' => e = .returned (.bool (atomB x.li)) ∧ Below w.heap.size w w' := by
  obtain ⟨n, s, A, c, args, o⟩ := x
  have h0 := heap_alloc_new w (.cells #[.bool n, .string s, .slice A args.length c, .int .i64 o] 41)
  have n0 := cell_of_row _ w.heap.size 0 _ _ (0, 0) h0
  have n3 := cell_of_row _ w.heap.size 3 _ _ (0, 0) h0
  have HI : Hid (atomB (LmG.li ⟨n, s, A, c, args, o⟩) = (decide (o = 0) && !n)) := Lib.hid rfl
  generalize atomB (LmG.li ⟨n, s, A, c, args, o⟩) = q at *
  clear h0
  by_cases ho : o = 0
  · have bo : (o == 0) = true := by simpa using ho
    go_enter Try.func20, Try.ntmps20
    go_wp2
    go_ret
    exact ⟨by rw [HI.out, decide_eq_true ho]; rfl, one_new _ _⟩
  · have bo : (o == 0) = false := by simpa using ho
    go_enter Try.func20, Try.ntmps20
    go_wp2
    go_ret
    exact ⟨by rw [HI.out, decide_eq_false ho]; rfl, one_new _ _⟩

set_option maxHeartbeats 1000000 in
theorem r_has15 (ss : List ByteArray) (A : Option Addr) (c : Nat) (s : ByteArray) (w : World) (hl : ss.length ≤ 1000000) (hA : ElsAt strC 1 w A ss) :
    Calls Try.prog 19 #[.slice A ss.length c, .string s] w fun e w' => e = .returned (.bool (hasX s ss)) ∧ Below w.heap.size w w' := by
  have HA := Lib.hid hA
  clear hA
  go_enter Try.func19, Try.ntmps19
  go_wp2
  go_loopw [5] (fun i wr => ∃ k : Nat, i = .int .i64 k ∧ k ≤ ss.length ∧ hasX s (ss.take k) = false ∧ Below w.heap.size w wr) (fun i _ => ss.length - (intOf i).toNat)
  case atStart => exact ⟨0, rfl, by omega, by simp [hasX], Below.refl _ _⟩
  case round =>
    obtain ⟨k, rfl, hk, hno, hb⟩ := hrel
    have HB := Lib.hid hb
    have hta := HA.out.below hb
    clear hb
    by_cases hlt : k < ss.length
    · obtain ⟨x, hx⟩ : ∃ x, ss[k]? = some x := ⟨_, List.getElem?_eq_getElem hlt⟩
      obtain ⟨a, rfl, c0⟩ := els_S hta hx
      have hs := hasX_succ s ss k x hx
      rw [hno, Bool.false_or] at hs
      have hall : (x.toList == s.toList) = true → hasX s ss = true := fun h => hasX_iff.2 (toList_eqT.1 h ▸ List.mem_of_getElem? hx)
      have HS := Lib.hid hs
      have HALL := Lib.hid hall
      clear hta hno hs hx hall
      rcases Bool.eq_false_or_eq_true (x.toList == s.toList) with hh | hh
      · rw [hh] at HALL
        have HR := Lib.hid (HALL.out rfl)
        clear HALL HS
        go_wp2
        go_ret
        exact ⟨by rw [HR.out]; rfl, HB.out⟩
      · rw [hh] at HS
        clear HALL
        go_wp2
        go_roundw
        case rel => exact ⟨k + 1, by go_num, by omega, HS.out, HB.out⟩
        case measure => simp [intOf]; omega
    · have hd : hasX s ss = false := by
        rw [List.take_of_length_le (by omega)] at hno
        exact hno
      have HD := Lib.hid hd
      clear hno hd hta
      go_wp2
      go_ret
      exact ⟨by rw [HD.out]; rfl, HB.out⟩

set_option maxRecDepth 100000 in
set_option maxHeartbeats 2000000 in
theorem r_textsG (ss : List ByteArray) (A B : Option Addr) (c d : Nat) (w : World) (hl : ss.length ≤ 1000000) (hA : ElsAt strC 1 w A ss) (hB : ElsAt strC 1 w B ss) :
    Calls Try.prog 11 #[.slice A ss.length c, .slice B ss.length d] w fun e w' => e = .returned (.bool true) ∧ Below w.heap.size w w' := by
  have HA := Lib.hid hA
  have HBT := Lib.hid hB
  clear hA hB
  go_enter Try.func11, Try.ntmps11
  go_wp2
  go_loopw [5] (fun i wr => ∃ k : Nat, i = .int .i64 k ∧ k ≤ ss.length ∧ Below w.heap.size w wr) (fun i _ => ss.length - (intOf i).toNat)
  case atStart => exact ⟨0, rfl, by omega, Below.refl _ _⟩
  case round =>
    obtain ⟨k, rfl, hk, hb⟩ := hrel
    have HB := Lib.hid hb
    have hta := HA.out.below hb
    have htb := HBT.out.below hb
    clear hb
    by_cases hlt : k < ss.length
    · obtain ⟨x, hx⟩ : ∃ x, ss[k]? = some x := ⟨_, List.getElem?_eq_getElem hlt⟩
      obtain ⟨a, rfl, c0⟩ := els_S hta hx
      obtain ⟨b, rfl, d0⟩ := els_S htb hx
      clear hta htb hx
      go_wp2
      go_quiet (fail)
      go_wp2
      go_roundw
      case rel => exact ⟨k + 1, by go_num, by omega, below_drewN' HB.out _⟩
      case measure => simp [intOf]; omega
    · go_wp2
      go_ret
      exact ⟨rfl, HB.out⟩
end
end Go.Proofs.Ytmkejlhkipngnaa
