/-
  A literal in memory while it is read; a list of terms that was made ahead.
  Condition: no more than four hundred tokens, and a place among them.
  The program's parser: an atom's argument, its arguments, a comparison.
  Condition: no more than four hundred tokens, and one that is left.
  The program's parser: an atom's arguments.
  Condition: no more than four hundred tokens, and one that is left.
-/
import Derived.Deep.Cut
import Derived.BigQuiet
import Derived.StillTailTactics
import Derived.Deep.RegionHeld3
import Derived.Test.YtkobfngnnblpeaaGreatDoorM29
import Derived.Test.YtkobfngnnblpeaaGreatDoorM30
namespace Go.Proofs.YtkobfngnnblpeaaGreatDoor
section
open Go.RowKit

/-- A literal lies in a box. -/
def BoxL (W : World) (b : Nat) (n : Bool) (s : ByteArray) (v : Value) (o : Int) : Prop := W.heap[b]? = some (.cells #[.bool n, .string s, v, .int .i64 o] 50 (0, 0))
theorem BoxL.lt {W : World} {b : Nat} {n : Bool} {s : ByteArray} {v : Value} {o : Int} (h : BoxL W b n s v o) : b < W.heap.size := (Array.getElem?_eq_some_iff.1 h).1
/-- Where a literal is read: the reader, the box of what is answered, the box of the literal. -/
structure LSt (w W : World) (g t c : Nat) (ls : List Tok) (s : Rst) (b : Nat) (n : Bool) (nm : ByteArray) (v : Value) (o : Int) : Prop where
  rd : RdP W g t c ls s
  on : OnlyR g w W
  b0 : BoxL W w.heap.size false ⟨#[]⟩ (.slice none 0 0) 0
  b1 : BoxL W b n nm v o
  lt : w.heap.size < b
  gl : g < w.heap.size
  tl : t < w.heap.size
section
variable {w W W' : World} {g t c b : Nat} {ls : List Tok} {s s' : Rst} {n : Bool} {nm : ByteArray} {v : Value} {o : Int}
theorem LSt.call (h : LSt w W g t c ls s b n nm v o) (hr : RdP W' g t c ls s') (ho : OnlyR g W W') : LSt w W' g t c ls s' b n nm v o :=
  ⟨hr, h.on.trans ho, (ho.2 _ h.b0.lt (by have := h.gl; omega)).trans h.b0, (ho.2 _ h.b1.lt (by have := h.gl; have := h.lt; omega)).trans h.b1, h.lt, h.gl, h.tl⟩
theorem LSt.below (h : LSt w W g t c ls s b n nm v o) (hb : Below W.heap.size W W') : LSt w W' g t c ls s b n nm v o := h.call (h.rd.below hb) (OnlyR.of hb)
theorem LSt.setA (h : LSt w W g t c ls s b n nm v o) (i : Nat) (x : Value) : RdP (W.setCell ⟨b, i, none⟩ x) g t c ls s ∧ OnlyR g w (W.setCell ⟨b, i, none⟩ x) ∧ BoxL (W.setCell ⟨b, i, none⟩ x) w.heap.size false ⟨#[]⟩ (.slice none 0 0) 0 := by
  have h1 := h.gl
  have h2 := h.lt
  have h3 := h.tl
  refine ⟨h.rd.new (by omega) (by omega) x, h.on.new (by omega) x, ?_⟩
  unfold BoxL
  rw [Below.heap_setCell W ⟨b, i, none⟩ x _ (by show w.heap.size ≠ b; omega)]
  exact h.b0
theorem LSt.set1 (h : LSt w W g t c ls s b n nm v o) (x : ByteArray) : LSt w (W.setCell ⟨b, 1, none⟩ (.string x)) g t c ls s b n x v o :=
  ⟨(h.setA 1 _).1, (h.setA 1 _).2.1, (h.setA 1 _).2.2, heap_setCell_same W b 1 _ _ _ h.b1, h.lt, h.gl, h.tl⟩
theorem LSt.set2 (h : LSt w W g t c ls s b n nm v o) (x : Value) : LSt w (W.setCell ⟨b, 2, none⟩ x) g t c ls s b n nm x o :=
  ⟨(h.setA 2 _).1, (h.setA 2 _).2.1, (h.setA 2 _).2.2, heap_setCell_same W b 2 _ _ _ h.b1, h.lt, h.gl, h.tl⟩
theorem LSt.set3 (h : LSt w W g t c ls s b n nm v o) (x : Int) : LSt w (W.setCell ⟨b, 3, none⟩ (.int .i64 x)) g t c ls s b n nm v x :=
  ⟨(h.setA 3 _).1, (h.setA 3 _).2.1, (h.setA 3 _).2.2, heap_setCell_same W b 3 _ _ _ h.b1, h.lt, h.gl, h.tl⟩
theorem LSt.cells (h : LSt w W g t c ls s b n nm v o) : W.cell? ⟨b, 0, none⟩ = some (.bool n) ∧ W.cell? ⟨b, 1, none⟩ = some (.string nm) ∧ W.cell? ⟨b, 2, none⟩ = some v ∧ W.cell? ⟨b, 3, none⟩ = some (.int .i64 o) ∧ W.frozen? ⟨b, 0, none⟩ = false ∧ W.frozen? ⟨b, 1, none⟩ = false ∧ W.frozen? ⟨b, 2, none⟩ = false ∧ W.frozen? ⟨b, 3, none⟩ = false := by
  obtain ⟨h0, h1, h2, h3, h4⟩ := box4_of h.b1
  exact ⟨h0, h1, h2, h3, h4 0, h4 1, h4 2, h4 3⟩
theorem LSt.zero (h : LSt w W g t c ls s b n nm v o) : W.cell? ⟨w.heap.size, 0, none⟩ = some (.bool false) ∧ W.cell? ⟨w.heap.size, 1, none⟩ = some (.string ⟨#[]⟩) ∧ W.cell? ⟨w.heap.size, 2, none⟩ = some (.slice none 0 0) ∧ W.cell? ⟨w.heap.size, 3, none⟩ = some (.int .i64 0) ∧ W.frozen? ⟨w.heap.size, 0, none⟩ = false ∧ W.frozen? ⟨w.heap.size, 1, none⟩ = false ∧ W.frozen? ⟨w.heap.size, 2, none⟩ = false ∧ W.frozen? ⟨w.heap.size, 3, none⟩ = false := by
  obtain ⟨h0, h1, h2, h3, h4⟩ := box4_of h.b0
  exact ⟨h0, h1, h2, h3, h4 0, h4 1, h4 2, h4 3⟩
end
/-- A list of terms that was made ahead: nil, or in a block of terms. -/
def ArgsAt (w : World) (base : Nat) (v : Value) (l : List TmP) : Prop := (v = .slice none 0 0 ∧ l = []) ∨ ∃ (b c : Nat) (cur : Array Value), v = .slice (some ⟨b, 0, none⟩) l.length c ∧ base ≤ b ∧ w.heap[b]? = some (.cells cur 47 (0, 0)) ∧ ElsAt TmP.cells 6 w (some ⟨b, 0, none⟩) l
theorem ArgsAt.of {w : World} {base : Nat} {v : Value} {l : List TmP} (h : OwnTm w base v l) : ArgsAt w base v l := by
  rcases h.slice el_Tm with h1 | ⟨g, c, rfl, h2, h3, h4, h5⟩
  · exact .inl h1
  · rcases h.2 with ⟨hn, _⟩ | ⟨g', cap, cur, hv, _, hh, _⟩
    · cases hn
    · cases hv
      exact .inr ⟨g, c, cur, rfl, h2, hh, h5⟩
theorem ArgsAt.byBlock {w w' : World} {base : Nat} {v : Value} {l : List TmP} (h : ArgsAt w base v l) (hb : ∀ (b : Nat) (cur : Array Value), base ≤ b → w.heap[b]? = some (.cells cur 47 (0, 0)) → w'.heap[b]? = w.heap[b]?) : ArgsAt w' base v l := by
  rcases h with h | ⟨b, c, cur, hv, hl, hh, he⟩
  · exact .inl h
  · have hk := hb b cur hl hh
    exact .inr ⟨b, c, cur, hv, hl, hk.trans hh, he.block hk⟩
theorem ArgsAt.only {g : Nat} {w w' : World} {base : Nat} {v : Value} {l : List TmP} (h : ArgsAt w base v l) (ho : OnlyR g w w') (hg : g < base) : ArgsAt w' base v l :=
  h.byBlock fun b _ h1 h2 => ho.2 b (Array.getElem?_eq_some_iff.1 h2).1 (by omega)
theorem ArgsAt.one {w : World} {base : Nat} {v : Value} {l : List TmP} (h : ArgsAt w base v l) : v.oneCell' = true := by
  rcases h with ⟨rfl, _⟩ | ⟨b, c, cur, rfl, _⟩ <;> rfl
theorem els_two {W : World} {b : Nat} {x y : TmP} (h : W.heap[b]? = some (.cells #[.string x.s, .bool x.a, .int .i64 x.v.k, .bool x.v.f, .int .i64 x.v.n, .string x.v.t, .string y.s, .bool y.a, .int .i64 y.v.k, .bool y.v.f, .int .i64 y.v.n, .string y.v.t] 47 (0, 0))) : ElsAt TmP.cells 6 W (some ⟨b, 0, none⟩) [x, y] := by
  intro i z hi
  have hj6 : ∀ (z : TmP) (j : Nat) (u : Value), z.cells[j]? = some u → j < 6 := fun z j u hj => (List.getElem?_eq_some_iff.1 hj).1
  match i, hi with
  | 0, hi =>
    have e : x = z := by simpa using hi
    subst e
    refine ⟨_, rfl, fun j u hj => ?_⟩
    have h6 := hj6 _ j u hj
    rw [add_add, cell_of_row _ b (0 * 6 + j) _ _ (0, 0) h]
    match j, h6, hj with
    | 0, _, hj => exact hj
    | 1, _, hj => exact hj
    | 2, _, hj => exact hj
    | 3, _, hj => exact hj
    | 4, _, hj => exact hj
    | 5, _, hj => exact hj
  | 1, hi =>
    have e : y = z := by simpa using hi
    subst e
    refine ⟨_, rfl, fun j u hj => ?_⟩
    have h6 := hj6 _ j u hj
    rw [add_add, cell_of_row _ b (1 * 6 + j) _ _ (0, 0) h]
    match j, h6, hj with
    | 0, _, hj => exact hj
    | 1, _, hj => exact hj
    | 2, _, hj => exact hj
    | 3, _, hj => exact hj
    | 4, _, hj => exact hj
    | 5, _, hj => exact hj
theorem ArgsAt.setL {W : World} {base r i : Nat} {u x : Value} {l : List TmP} {cs : Array Value} (h : ArgsAt W base u l) (hr : W.heap[r]? = some (.cells cs 50 (0, 0))) : ArgsAt (W.setCell ⟨r, i, none⟩ x) base u l :=
  h.byBlock fun b' cur _ h3 => Below.heap_setCell W ⟨r, i, none⟩ x b' fun e => by
    have e' : b' = r := e
    rw [e', hr] at h3
    injection h3 with h3
    injection h3 with _ h4
    exact absurd h4 (by decide)
theorem LSt.end4 {w W : World} {g t c b : Nat} {ls : List Tok} {s : Rst} {n : Bool} {nm : ByteArray} {v u : Value} {o : Int} {l : List TmP} (h : LSt w W g t c ls s b n nm v o) (hA : ArgsAt W w.heap.size u l) (x0 x1 x2 x3 : Value) :
    ArgsAt ((((W.setCell ⟨w.heap.size, 0, none⟩ x0).setCell ⟨w.heap.size, 1, none⟩ x1).setCell ⟨w.heap.size, 2, none⟩ x2).setCell ⟨w.heap.size, 3, none⟩ x3) w.heap.size u l ∧ RdP ((((W.setCell ⟨w.heap.size, 0, none⟩ x0).setCell ⟨w.heap.size, 1, none⟩ x1).setCell ⟨w.heap.size, 2, none⟩ x2).setCell ⟨w.heap.size, 3, none⟩ x3) g t c ls s ∧ OnlyR g w ((((W.setCell ⟨w.heap.size, 0, none⟩ x0).setCell ⟨w.heap.size, 1, none⟩ x1).setCell ⟨w.heap.size, 2, none⟩ x2).setCell ⟨w.heap.size, 3, none⟩ x3) := by
  have h1 := h.gl
  have h3 := h.tl
  have k0 := h.b0
  have k1 := heap_setCell_same W w.heap.size 0 _ _ x0 k0
  have k2 := heap_setCell_same _ w.heap.size 1 _ _ x1 k1
  have k3 := heap_setCell_same _ w.heap.size 2 _ _ x2 k2
  exact ⟨(((hA.setL k0).setL k1).setL k2).setL k3, (((h.rd.new (by omega) (by omega) x0).new (by omega) (by omega) x1).new (by omega) (by omega) x2).new (by omega) (by omega) x3, (((h.on.new (Nat.le_refl _) x0).new (Nat.le_refl _) x1).new (Nat.le_refl _) x2).new (Nat.le_refl _) x3⟩
theorem ext_classL (h : Nat) (w : World) (hh : h ≤ w.heap.size) : ∃ (E : Type) (X : E → World), Nonempty E ∧ (∀ e, Below h w (X e)) ∧ (∀ W, Below h w W → ∃ e, W = X e) ∧ ∀ e W, Below (X e).heap.size (X e) W → ∃ e2, W = X e2 :=
  ⟨{W : World // Below h w W}, Subtype.val, ⟨⟨w, Below.refl _ _⟩⟩, fun e => e.2, fun W hW => ⟨⟨W, hW⟩, rfl⟩, fun e W hW => ⟨⟨W, e.2.trans (hW.mono (Nat.le_trans hh e.2.size))⟩, rfl⟩⟩
end
end Go.Proofs.YtkobfngnnblpeaaGreatDoor
namespace Go.Proofs.YtkobfngnnblpeaaGreatDoor
section
open Go.RowKit

theorem k_hasL {w : World} {g t i : Nat} {ls : List Tok} (h : RdK w g t ls i) (hA : AtI ls i) (u : ByteArray) (l : List UInt8) (hl : l ∈ keyW) (hu : u.data.toList = l) :
    Calls Tryz.prog 69 #[.pointer (some ⟨g, 0, none⟩), .string u] w fun e w' => e = .returned (.bool (hasP (ls.drop i) l)) ∧ OnlyR g w w' ∧ (hasP (ls.drop i) l = true → AtI ls (i + 1) ∧ RdK w' g t ls (i + 1)) ∧ (hasP (ls.drop i) l = false → RdK w' g t ls i) := by
  subst hu
  exact k_has h hA u (key_ne _ hl)
theorem k_needL {w : World} {g t i : Nat} {ls : List Tok} (h : RdK w g t ls i) (hA : AtI ls i) (u : ByteArray) (l : List UInt8) (hl : l ∈ keyW) (hu : u.data.toList = l) :
    Calls Tryz.prog 33 #[.pointer (some ⟨g, 0, none⟩), .string u] w (ResP w g t ls (fun _ v _ => v = .tuple #[]) (needP (ls.drop i) l)) := by
  subst hu
  exact k_need h hA u (key_ne _ hl)
theorem drop_inj {ls : List Tok} {i j : Nat} (h : ls.drop i = ls.drop j) (hi : i < ls.length) : i = j := by
  have := congrArg List.length h
  rw [List.length_drop, List.length_drop] at this
  omega
theorem argP_tail {ts r : List Tok} {x : TmP} (h : argP ts = .ok x r) : r = ts.tail := by
  unfold argP termP at h
  split at h
  · injection h with _ h; exact h.symm
  · split at h
    · injection h with _ h; exact h.symm
    · cases h
/-- How many tokens the reader at g has left. -/
def leftK (w : World) (g : Nat) : Nat := match w.cell? ⟨g, 0, none⟩ with
  | some (.slice _ n _) => n
  | _ => 0
theorem RdK.left {w : World} {g t i : Nat} {ls : List Tok} (h : RdK w g t ls i) : leftK w g = ls.length - i := by
  obtain ⟨o, c, h1, _⟩ := h
  unfold leftK
  rw [cell_of_row _ g 0 _ _ (0, 0) h1]
  rfl
theorem RdK.grown {w w2 : World} {g t i base : Nat} {ls : List Tok} {v : Value} (h : RdK w g t ls i) (hg : w.grownBy w2 v.ownBlock) (hv : ∀ k, v.ownBlock = some k → base ≤ k) (h1 : g < base) (h2 : t < base) : RdK w2 g t ls i := by
  have hl := h.lt
  obtain ⟨o, c, a, b, d, e, f⟩ := h
  exact ⟨o, c, (hg.block g hl (fun e => by have := hv g e.symm; omega)).trans a, b, d, e.block (fun hk => hg.block t hk (fun e => by have := hv t e.symm; omega)), f⟩

set_option maxHeartbeats 1000000 in
theorem k_arg {w : World} {g t i : Nat} {ls : List Tok} (h : RdK w g t ls i) (hA : AtI ls i) :
    Calls Tryz.prog 133 #[.pointer (some ⟨g, 0, none⟩)] w (ResP w g t ls (fun x v _ => v = x.val) (argP (ls.drop i))) := by
  have hon := one_new w zeroTm
  have HH := Lib.hid (k_hasL (h.below hon) hA ⟨#[95]⟩ wAny (by decide) rfl)
  have HO0 := Lib.hid (OnlyR.of (g := g) hon)
  have hz0 := heap_alloc_new w zeroTm
  have HZ := Lib.hid hz0
  have HG := Lib.hid h.lt
  have HTL := Lib.hid (h.tlt (by have := hA.i; omega))
  have HA := Lib.hid hA
  have HP : Hid (argP (ls.drop i) = if hasP (ls.drop i) wAny = true then .ok anyT (ls.drop (i + 1)) else termP (ls.drop i)) := Lib.hid (by unfold argP; rw [List.tail_drop])
  generalize argP (ls.drop i) = p at *
  generalize hasP (ls.drop i) wAny = q at *
  clear h hon hz0 hA
  go_enter Tryz.func133, Tryz.ntmps133
  go_wp2_with fail
  refine HH.out.mono ?_
  rintro e w1 ⟨rfl, ho1, hr1, hr0⟩
  have hs1 := ho1.size
  rw [World.size_alloc] at hs1
  have hz1 := (ho1.2 w.heap.size (by simp) (by have := HG.out; omega)).trans HZ.out
  have HO1 := Lib.hid (HO0.out.trans ho1)
  cases q with
  | true =>
    obtain ⟨hi, hr⟩ := hr1 rfl
    have HR := Lib.hid hr
    have HI := Lib.hid hi
    obtain ⟨r0, r1, r2, r3, r4, r5, rf⟩ := box6_of hz1
    have f0 := rf 0
    have f1 := rf 1
    have f2 := rf 2
    have f3 := rf 3
    have f4 := rf 4
    have f5 := rf 5
    clear rf hz1 hr hi hr1 hr0 ho1 HH HO0 HZ
    go_wp2
    exact bodyPost_ret (v := .agg #[.string ⟨#[]⟩, .bool true, .int .i64 0, .bool false, .int .i64 0, .string ⟨#[]⟩]) (by simp [results, Tryz.results133, go_sem, r0, r1, r2, r3, r4, r5]) rfl
        (ResP.ok (by repeat (first | (with_reducible exact HO1.out) | (with_reducible refine OnlyR.new ?_ (Nat.le_refl _) _))) (by rw [HP.out]; rfl) rfl HI.out (by repeat (first | (with_reducible exact HR.out) | (with_reducible refine RdK.new ?_ (by have := HG.out; omega) (by have := HTL.out; omega) _))))
  | false =>
    have HT := Lib.hid (k_term (hr0 rfl) HA.out)
    have HP2 : Hid (p = termP (ls.drop i)) := Lib.hid HP.out
    have HZ1 := Lib.hid hz1
    clear hr1 hr0 ho1 HH HO0 HZ hz1 HP
    go_wp2_with fail
    refine HT.out.mono ?_
    intro e w2 hres
    rcases ResP.cases HA.out.g hres with ⟨x, v, j, hp, rfl, rfl, hj, hr, ho⟩ | ⟨a, y, hp, rfl, ho⟩
    · have HR := Lib.hid hr
      have HO2 := Lib.hid (HO1.out.trans ho)
      have HPP := Lib.hid hp
      have HI := Lib.hid hj
      have hz2 := (ho.2 w.heap.size (by omega) (by have := HG.out; omega)).trans HZ1.out
      obtain ⟨r0, r1, r2, r3, r4, r5, rf⟩ := box6_of hz2
      have f0 := rf 0
      have f1 := rf 1
      have f2 := rf 2
      have f3 := rf 3
      have f4 := rf 4
      have f5 := rf 5
      obtain ⟨xs, xa, ⟨xk, xf, xn, xt⟩⟩ := x
      clear rf hz2 hr hj hp ho hres HT HZ1
      go_wp2
      exact bodyPost_ret (v := .agg #[.string xs, .bool xa, .int .i64 xk, .bool xf, .int .i64 xn, .string xt]) (by simp [results, Tryz.results133, go_sem, r0, r1, r2, r3, r4, r5]) rfl
        (ResP.ok (by repeat (first | (with_reducible exact HO2.out) | (with_reducible refine OnlyR.new ?_ (Nat.le_refl _) _))) (by rw [HP2.out, HPP.out]) rfl HI.out (by repeat (first | (with_reducible exact HR.out) | (with_reducible refine RdK.new ?_ (by have := HG.out; omega) (by have := HTL.out; omega) _))))
    · have HO2 := Lib.hid (HO1.out.trans ho)
      have HPP := Lib.hid hp
      clear hp ho hres HT
      go_wp2
      exact ⟨rfl, ResP.bad HO2.out (by rw [HP2.out, HPP.out])⟩
end
end Go.Proofs.YtkobfngnnblpeaaGreatDoor
namespace Go.Proofs.YtkobfngnnblpeaaGreatDoor
section
open Go.RowKit

theorem bind_bad {α β : Type} {p : PR α} {f : α → List Tok → PR β} {a y : Int} (h : p = .bad a y) : p.bind f = .bad a y := by rw [h]; rfl
theorem bind_go {α β : Type} {p : PR α} {f : α → List Tok → PR β} {v : α} {r : List Tok} (h : p = .ok v r) : p.bind f = f v r := by rw [h]; rfl
set_option maxRecDepth 100000 in
set_option maxHeartbeats 4000000 in
theorem k_args {w : World} {g t i : Nat} {ls : List Tok} (h : RdK w g t ls i) (hA : AtI ls i) :
    Calls Tryz.prog 103 #[.pointer (some ⟨g, 0, none⟩)] w (ResP w g t ls (fun l v w' => OwnTm w' w.heap.size v l) (argsP (ls.drop i))) := by
  have HND := Lib.hid (k_needL h hA ⟨#[40]⟩ wOpen (by decide) rfl)
  have hg := h.lt
  have ht := h.tlt (by have := hA.i; omega)
  have HG := Lib.hid hA.g
  have HP : Hid (argsP (ls.drop i) = (needP (ls.drop i) wOpen).bind fun _ r => if hasP r wShut = true then .ok [] r.tail else asGo 400 [] r) := Lib.hid rfl
  generalize argsP (ls.drop i) = R at *
  clear h hA
  go_enter Tryz.func103, Tryz.ntmps103
  go_wp2_with fail
  refine HND.out.mono ?_
  intro e w1 hres
  rcases ResP.cases HG.out hres with ⟨x, v, j, hp, rfl, rfl, hj, hr, ho⟩ | ⟨a, y, hp, rfl, ho⟩
  · have HP1 : Hid (R = if hasP (ls.drop j) wShut = true then .ok [] (ls.drop (j + 1)) else asGo 400 [] (ls.drop j)) := Lib.hid (by rw [HP.out, bind_go hp, List.tail_drop])
    have HH := Lib.hid (k_hasL hr hj ⟨#[41]⟩ wShut (by decide) rfl)
    have HJ := Lib.hid hj
    have HO1 := Lib.hid ho
    generalize hasP (ls.drop j) wShut = q at *
    clear hp hj hr ho hres HND HP
    go_wp2_with fail
    refine HH.out.mono ?_
    rintro e w2 ⟨rfl, ho2, hr1, hr0⟩
    have HO2 := Lib.hid (HO1.out.trans ho2)
    cases q with
    | true =>
      obtain ⟨hi, hr⟩ := hr1 rfl
      have HR := Lib.hid hr
      have HI := Lib.hid hi
      clear hr1 hr0 ho2 hr hi HH HO1
      go_wp2
      go_ret
      exact ResP.ok HO2.out (by rw [HP1.out]; rfl) (OwnF.nil _ _) HI.out HR.out
    | false =>
      have HR := Lib.hid (hr0 rfl)
      have HP2 : Hid (R = asGo 400 [] (ls.drop j)) := Lib.hid HP1.out
      clear hr1 hr0 ho2 HH HO1 HP1
      go_wp2
      go_loopw [3, 4] (fun v m wr => ∃ (q : Bool) (f : Nat) (l : List TmP) (j : Nat), m = .bool q ∧ l.length ≤ 40 ∧ OwnTm wr w.heap.size v l ∧ RdK wr g t ls j ∧ AtI ls j ∧ ls.length ≤ j + f ∧ Hid (R = if q = true then asGo f l (ls.drop j) else (needP (ls.drop j) wShut).bind fun _ r => .ok l r) ∧ OnlyR g w wr) (fun _ _ wr => leftK wr g)
      case atStart => exact ⟨true, 400, [], j, rfl, by simp, OwnF.nil _ _, HR.out, HJ.out, by have := HG.out.2; omega, Lib.hid HP2.out, HO2.out⟩
      case round =>
        clear HR HJ HP2 HO2
        obtain ⟨q, f, l, j, rfl, hl, hown, hr, hj, hf, HA0, ho⟩ := hrel
        have HO := Lib.hid ho
        have HW := Lib.hid hown
        have HR := Lib.hid hr
        have HJ := Lib.hid hj
        have hsz := ho.size
        obtain ⟨A, cc, hvv⟩ := hown.shape
        subst hvv
        cases q with
        | true =>
          obtain ⟨⟨k, b, ⟨vk, vf, vn, vt⟩, a⟩, hX⟩ : ∃ x, hdT (ls.drop j) = x := ⟨_, rfl⟩
          have HLK := Lib.hid (k_look hr hj.i hX)
          have hji := hj.i
          obtain ⟨f', hf'⟩ : ∃ f', f = f' + 1 := ⟨f - 1, by omega⟩
          subst hf'
          have HA : Hid (R = (argP (ls.drop j)).bind fun x r => if l.length = 40 then .bad a 9 else if hasP r wComma = true then asGo f' (l ++ [x]) r.tail else (needP r wShut).bind fun _ r => .ok (l ++ [x]) r) := Lib.hid (by rw [HA0.out, if_pos rfl, asGo, hX])
          have HLF := Lib.hid hr.left
          clear ho hown hr hj hX HA0
          go_wp2_with fail
          refine HLK.out.mono ?_
          rintro e w3 ⟨rfl, hb3⟩
          have hbt := hb3.trans ((one_new w3 (tkO k b vk vf vn vt a)).mono hb3.size)
          have HR3 := Lib.hid (HR.out.below hbt)
          have HO3 := Lib.hid (HO.out.trans (OnlyR.of (g := g) hbt))
          have HW3 := Lib.hid (HW.out.below hbt)
          have HT3 := Lib.hid (heap_alloc_new w3 (tkO k b vk vf vn vt a))
          have HAR := Lib.hid (k_arg HR3.out HJ.out)
          have hs3 := hb3.size
          have HS3 := Lib.hid hs3
          clear hb3 hbt HLK HR HO HW hs3
          go_wp2_with fail
          refine HAR.out.mono ?_
          intro e w4 hres
          rcases ResP.cases HG.out hres with ⟨x, v, j1, hp, rfl, rfl, hj1, hr4, ho4⟩ | ⟨a', y, hp, rfl, ho4⟩
          · have hjj : j + 1 = j1 := by
              have h1 := argP_tail hp
              rw [List.tail_drop] at h1
              exact (drop_inj h1 hj1.i).symm
            subst hjj
            have HA2 := HA.out
            rw [bind_go hp] at HA2
            have ht4 := (ho4.2 w3.heap.size (by simp) (by have := HS3.out; omega)).trans HT3.out
            have HO4 := Lib.hid (HO3.out.trans ho4)
            have HW4 := Lib.hid (HW3.out.byBlock fun k hk => ho4.2 k (HW3.out.lt k hk).2 (by have := (HW3.out.lt k hk).1; omega))
            have HR4 := Lib.hid hr4
            have HJ4 := Lib.hid hj1
            have hsz4 := ho4.size
            rw [World.size_alloc] at hsz4
            have hsz0 := HS3.out
            obtain ⟨xs, xa, ⟨xk, xf, xn, xt⟩⟩ := x
            by_cases h40 : l.length = 40
            · have hli : (l.length : Int) = 40 := by omega
              have hlb : ((l.length : Int) == 40) = true := by rw [hli]; rfl
              rw [if_pos h40] at HA2
              have HA2 := Lib.hid HA2
              have m6 := cell_of_row _ w3.heap.size 6 _ _ (0, 0) (((one_new w4 (.cells #[.string xs, .bool xa, .int .i64 xk, .bool xf, .int .i64 xn, .string xt] 47)).block w3.heap.size (by omega)).trans ht4)
              have HOE := Lib.hid (HO4.out.trans (OnlyR.of (g := g) (one_new w4 (.cells #[.string xs, .bool xa, .int .i64 xk, .bool xf, .int .i64 xn, .string xt] 47))))
              clear ht4 hp hj1 hr4 ho4 hres HAR HA
              go_wp2
              exact ⟨rfl, ResP.bad HOE.out HA2.out⟩
            · have hlb : ((l.length : Int) == 40) = false := by simp; omega
              have hln : ¬ (l.length : Int) = 40 := by omega
              rw [if_neg h40, List.tail_drop] at HA2
              have HA2 := Lib.hid HA2
              have n4 := heap_alloc_new w4 (.cells #[.string xs, .bool xa, .int .i64 xk, .bool xf, .int .i64 xn, .string xt] 47)
              obtain ⟨d0, d1, d2, d3, d4, d5, _⟩ := box6_of n4
              have q2 := lit_F TmP.cells (w4.alloc (.cells #[.string xs, .bool xa, .int .i64 xk, .bool xf, .int .i64 xn, .string xt] 47)) ⟨xs, xa, ⟨xk, xf, xn, xt⟩⟩ #[.string xs, .bool xa, .int .i64 xk, .bool xf, .int .i64 xn, .string xt] 47 rfl
              rw [World.size_alloc] at q2
              have hl1 : (l ++ [(⟨xs, xa, ⟨xk, xf, xn, xt⟩⟩ : TmP)]).length = l.length + 1 := by rw [List.length_append]; rfl
              clear ht4 hp hj1 hr4 ho4 hres HAR HA h40 n4
              go_wp2_with (at_builtin; refine wp_append_F el_Tm _ rfl (.tmp 25) (.tmp 27) rfl w.heap.size (.slice A l.length cc) l ⟨xs, xa, ⟨xk, xf, xn, xt⟩⟩ rfl (by exact (HW4.out.alloc _).alloc _) ⟨w4.heap.size + 1, 0, none⟩ 1 rfl (by exact q2) (by omega) (by simp; omega) ?_; intro v' w6 hown' hb6 hgrow hor; obtain ⟨A6, c6, hv6⟩ := hown'.shape; rw [hl1] at hv6; subst hv6; have hbb := two_new w4 (.cells #[.string xs, .bool xa, .int .i64 xk, .bool xf, .int .i64 xn, .string xt] 47) (.cells #[.string xs, .bool xa, .int .i64 xk, .bool xf, .int .i64 xn, .string xt] 47); have HR6 := Lib.hid (RdK.grown (base := w.heap.size) (HR4.out.below hbb) hgrow (fun k hk => (HW4.out.lt k hk).1) hg ht); have HO6 := Lib.hid (OnlyR.grown (base := w.heap.size) (HO4.out.trans (OnlyR.of (g := g) hbb)) rfl hgrow (fun k hk => (HW4.out.lt k hk).1)); have HW6 := Lib.hid hown'; have HHS := Lib.hid (k_hasL HR6.out HJ4.out ⟨#[44]⟩ wComma (by decide) rfl); clear hown' hb6 hgrow hor hbb)
              generalize hasP (ls.drop (j + 1)) wComma = q7 at *
              refine HHS.out.mono ?_
              rintro e w7 ⟨rfl, ho7, hr1, hr0⟩
              have HO7 := Lib.hid (HO6.out.trans ho7)
              have HW7 := Lib.hid (HW6.out.byBlock fun k hk => ho7.2 k (HW6.out.lt k hk).2 (by have := (HW6.out.lt k hk).1; omega))
              cases q7 with
              | true =>
                obtain ⟨hi7, hr7⟩ := hr1 rfl
                have HI7 := Lib.hid hi7
                have HR7 := Lib.hid hr7
                clear hr1 hr0 ho7 HHS hi7 hr7
                go_wp2
                go_roundw
                case rel => exact ⟨true, f', l ++ [⟨xs, xa, ⟨xk, xf, xn, xt⟩⟩], j + 1 + 1, rfl, by rw [hl1]; omega, HW7.out, HR7.out, HI7.out, by omega, Lib.hid (by rw [HA2.out]; rfl), HO7.out⟩
                case measure =>
                  rw [HR7.out.left, HLF.out]
                  have := HI7.out.i
                  omega
              | false =>
                have HR7 := Lib.hid (hr0 rfl)
                clear hr1 hr0 ho7 HHS
                go_wp2
                go_roundw
                case rel => exact ⟨false, f', l ++ [⟨xs, xa, ⟨xk, xf, xn, xt⟩⟩], j + 1, rfl, by rw [hl1]; omega, HW7.out, HR7.out, HJ4.out, by omega, Lib.hid HA2.out, HO7.out⟩
                case measure =>
                  rw [HR7.out.left, HLF.out]
                  have := HJ4.out.i
                  omega
          · have HO4 := Lib.hid (HO3.out.trans ho4)
            have HA2 : Hid (R = .bad a' y) := Lib.hid (by rw [HA.out, bind_bad hp])
            clear hp ho4 hres HAR HA
            go_wp2
            exact ⟨rfl, ResP.bad HO4.out HA2.out⟩
        | false =>
          have HND := Lib.hid (k_needL hr hj ⟨#[41]⟩ wShut (by decide) rfl)
          have HA : Hid (R = (needP (ls.drop j) wShut).bind fun _ r => .ok l r) := Lib.hid HA0.out
          clear ho hown hr hj HA0
          go_wp2_with fail
          refine HND.out.mono ?_
          intro e w3 hres
          rcases ResP.cases HG.out hres with ⟨x, v, j1, hp, rfl, rfl, hj1, hr3, ho3⟩ | ⟨a', y, hp, rfl, ho3⟩
          · have HO3 := Lib.hid (HO.out.trans ho3)
            have HA2 : Hid (R = .ok l (ls.drop j1)) := Lib.hid (by rw [HA.out, bind_go hp])
            have HW3 := Lib.hid (HW.out.byBlock fun k hk => ho3.2 k (HW.out.lt k hk).2 (by have := (HW.out.lt k hk).1; omega))
            have HR3 := Lib.hid hr3
            have HJ3 := Lib.hid hj1
            clear hp ho3 hres HND HA hr3 hj1
            go_wp2
            go_ret
            exact ResP.ok HO3.out HA2.out HW3.out HJ3.out HR3.out
          · have HO3 := Lib.hid (HO.out.trans ho3)
            have HA2 : Hid (R = .bad a' y) := Lib.hid (by rw [HA.out, bind_bad hp])
            clear hp ho3 hres HND HA
            go_wp2
            exact ⟨rfl, ResP.bad HO3.out HA2.out⟩
  · have HO2 := Lib.hid ho
    have HPP : Hid (R = .bad a y) := Lib.hid (by rw [HP.out, bind_bad hp])
    clear hp ho hres HND
    go_wp2
    exact ⟨rfl, ResP.bad HO2.out HPP.out⟩
end
end Go.Proofs.YtkobfngnnblpeaaGreatDoor
