/-
  Free of package guard: the first variable that a rule asks, but that no atom binds.
  Condition: a rule of which not very much is to be read.
  The document's Free of layer 15: the first variable that a rule asks, but that no atom binds.
  Condition: a rule of which not very much is to be read.
  Check of package guard and of layer 15's document: where a rule is not safe.
  Condition: a rule of which not very much is to be read.
  Whether a rule has few parts with short texts, told by the document: what follows where it says so, for a rule with all its terms.
  Condition: what lies in memory as a rule of any length.
  From what the document's parser answers to a rule as layer 15 sees it; the two fixed texts.
  No condition.
  Why a head can not be told: head and isSpace of package types.
  Condition: names are no longer than they can be.
-/
import Derived.WalkMore
import Derived.Handy
import Derived.KernelRfl
import Derived.Test.YthdjkagodccdbaaM29
import Derived.Test.YthdjkagodccdbaaM35
import Derived.Test.YthdjkagodccdbaaM40
namespace Go.Proofs.Ythdjkagodccdbaa
section
open Go.RowKit Go.Maps

abbrev RuG.pl (r : RuG) : RuP := ⟨r.k, r.nm, r.head, r.ag, r.ofv, r.lim, r.body.map LmG.li⟩
theorem box7g_of {W : World} {g : Nat} {a b c d e f k : Value} {T : TypeId} (h : W.heap[g]? = some (.cells #[a, b, c, d, e, f, k] T (0, 0))) :
    W.cell? ⟨g, 0, none⟩ = some a ∧ W.cell? ⟨g, 1, none⟩ = some b ∧ W.cell? ⟨g, 2, none⟩ = some c ∧ W.cell? ⟨g, 3, none⟩ = some d ∧ W.cell? ⟨g, 4, none⟩ = some e ∧ W.cell? ⟨g, 5, none⟩ = some f ∧ W.cell? ⟨g, 6, none⟩ = some k :=
  ⟨cell_of_row _ g 0 _ _ (0, 0) h, cell_of_row _ g 1 _ _ (0, 0) h, cell_of_row _ g 2 _ _ (0, 0) h, cell_of_row _ g 3 _ _ (0, 0) h, cell_of_row _ g 4 _ _ (0, 0) h, cell_of_row _ g 5 _ _ (0, 0) h, cell_of_row _ g 6 _ _ (0, 0) h⟩
theorem body_small {body : List LmG} (hl : body.length ≤ 41) (h : ∀ x ∈ body, x.args.length ≤ 5000) : (bndL (body.map LmG.li)).length ≤ 205000 := by
  have h1 := foldL_len (body.map LmG.li) [] (fun x hx => by
    obtain ⟨y, hy, rfl⟩ := List.mem_map.1 hx
    exact h y hy)
  rw [List.length_map] at h1
  have h3 : body.length * 5000 ≤ 41 * 5000 := Nat.mul_le_mul_right _ hl
  simp only [List.length_nil, Nat.zero_add] at h1
  unfold bndL
  omega
theorem foldT_sz (l : List TmP) (out : List ByteArray) (h1 : ∀ t ∈ l, t.s.size ≤ maxLen) (h2 : ∀ s ∈ out, s.size ≤ maxLen) : ∀ s ∈ l.foldl stepT out, s.size ≤ maxLen := by
  induction l generalizing out with
  | nil => exact h2
  | cons t l ih =>
    refine ih (stepT out t) (fun u hu => h1 u (List.mem_cons_of_mem _ hu)) fun s hs => ?_
    unfold stepT at hs
    split at hs
    · rcases List.mem_append.1 hs with h | h
      · exact h2 s h
      · rw [List.mem_singleton.1 h]; exact h1 t (List.mem_cons_self ..)
    · exact h2 s hs
theorem foldL_sz (l : List LiP) (out : List ByteArray) (h1 : ∀ x ∈ l, ∀ t ∈ x.args, t.s.size ≤ maxLen) (h2 : ∀ s ∈ out, s.size ≤ maxLen) : ∀ s ∈ l.foldl stepL out, s.size ≤ maxLen := by
  induction l generalizing out with
  | nil => exact h2
  | cons x l ih =>
    refine ih (stepL out x) (fun u hu => h1 u (List.mem_cons_of_mem _ hu)) ?_
    unfold stepL
    split
    · exact foldT_sz _ _ (h1 x (List.mem_cons_self ..)) h2
    · exact h2
end
end Go.Proofs.Ythdjkagodccdbaa
namespace Go.Proofs.Ythdjkagodccdbaa
section
open Go.RowKit Go.Maps
end
end Go.Proofs.Ythdjkagodccdbaa
namespace Go.Proofs.Ythdjkagodccdbaa
section
open Go.RowKit Go.Maps

/-- Where a rule is not safe, and the error's number. -/
noncomputable def checkX (r : RuP) : Int × Int := if !(r.body.any atomB) then (-1, 12) else if (freeX r).2.2 then ((freeX r).2.1, 12) else (0, 0)
theorem any_next {α : Type} (f : α → Bool) (l : List α) (k : Nat) (x : α) (h : l[k]? = some x) : (l.take (k + 1)).any f = ((l.take k).any f || f x) := by
  rw [List.take_add_one, h, Option.toList_some, List.any_append]
  simp
theorem any_of {α : Type} (f : α → Bool) (l : List α) (k : Nat) (x : α) (h : l[k]? = some x) (hf : f x = true) : l.any f = true :=
  List.any_eq_true.2 ⟨x, List.mem_of_getElem? h, hf⟩
end
end Go.Proofs.Ythdjkagodccdbaa
namespace Go.Proofs.Ythdjkagodccdbaa
section
open Go.RowKit Go.Maps

/-- How long all of a rule may be at most. -/
def RuG.Lng (r : RuG) : Prop := r.head.length ≤ maxLen ∧ r.body.length ≤ maxLen ∧ r.nm.size ≤ maxLen ∧ r.ofv.size ≤ maxLen ∧ (∀ s ∈ r.head, s.size ≤ maxLen) ∧ ∀ x ∈ r.body, x.args.length ≤ maxLen ∧ ∀ t ∈ x.args, t.s.size ≤ maxLen
/-- What follows where a rule has few parts. (Of its name and its 'of' nothing: the sum of their lengths may wrap.) -/
def RuG.few (r : RuG) : Prop := r.head.length ≤ 100 ∧ r.body.length ≤ 40 ∧ ∀ x ∈ r.body, x.args.length ≤ 100
theorem RuG.few.sml {r : RuG} (h : r.few) (hl : r.Lng) : r.Sml :=
  ⟨by have := h.1; omega, by have := h.2.1; omega, hl.2.2.2.2.1, hl.2.2.2.1, fun x hx => ⟨by have := h.2.2 x hx; omega, (hl.2.2.2.2.2 x hx).2⟩⟩
/-- What Few's answer tells. (A definition of its own: the walk would split the answer.) -/
def FewG (few : Prop) (w : World) (e : Ending) (w' : World) : Prop := ∃ q : Bool, e = .returned (.bool q) ∧ (q = true → few) ∧ Below w.heap.size w w'

set_option maxRecDepth 100000 in
set_option maxHeartbeats 8000000 in
theorem r_fewG (r : RuG) (w : World) (hr : r.Ok w) (hlg : r.Lng) :
    Calls Try.prog 13 #[.agg r.cells] w fun e w' => FewG r.few w e w' := by
  obtain ⟨k0, nm, hA, hc, head, ag, ofv, lim, bA, bc, body⟩ := r
  obtain ⟨m1, m2, m3, m4, m5, m6⟩ := hlg
  simp only at m1 m2 m3 m4 m5 m6
  have hon := one_new w (.cells #[.int .i64 k0, .string nm, .slice hA head.length hc, .int .i64 ag, .string ofv, .int .i64 lim, .slice bA body.length bc] 27)
  have HB0 := Lib.hid hon
  have hh0 := heap_alloc_new w (.cells #[.int .i64 k0, .string nm, .slice hA head.length hc, .int .i64 ag, .string ofv, .int .i64 lim, .slice bA body.length bc] 27)
  obtain ⟨n0, n1, n2, n3, n4, n5, n6⟩ := box7g_of hh0
  have HBX := Lib.hid hh0
  have HOK := Lib.hid (hr.below hon)
  have M6 := Lib.hid m6
  have hz0 : (w.alloc (.cells #[.int .i64 k0, .string nm, .slice hA head.length hc, .int .i64 ag, .string ofv, .int .i64 lim, .slice bA body.length bc] 27)).heap.size = w.heap.size + 1 := World.size_alloc _ _
  have HF : Hid (head.length ≤ 100 → body.length ≤ 40 → (∀ x ∈ body, x.args.length ≤ 100) → RuG.few (⟨k0, nm, hA, hc, head, ag, ofv, lim, bA, bc, body⟩ : RuG)) := Lib.hid fun h0 h1 h2 => ⟨h0, h1, h2⟩
  unfold maxLen at m1 m2 m3 m4
  clear hr m5 m6 hh0 hon
  generalize RuG.few (⟨k0, nm, hA, hc, head, ag, ofv, lim, bA, bc, body⟩ : RuG) = few at *
  have HP : Hid (∀ (q : Bool) (w' : World), (q = true → few) → Below w.heap.size w w' → FewG few w (Ending.returned (.bool q)) w') := Lib.hid fun q w' h1 h2 => ⟨q, rfl, h1, h2⟩
  have HZ0 := Lib.hid hz0
  clear hz0
  show Calls Try.prog 13 #[.agg #[.int .i64 k0, .string nm, .slice hA head.length hc, .int .i64 ag, .string ofv, .int .i64 lim, .slice bA body.length bc]] w fun e w' => FewG few w e w'
  go_enter Try.func13, Try.ntmps13
  by_cases z1 : (100 : Int) < (head.length : Int)
  · go_wp2
    go_ret
    exact HP.out false _ (fun h => absurd h Bool.false_ne_true) HB0.out
  by_cases z2 : (40 : Int) < (body.length : Int)
  · go_wp2
    go_ret
    exact HP.out false _ (fun h => absurd h Bool.false_ne_true) HB0.out
  by_cases z3 : (400 : Int) < wrap64 ((nm.size : Int) + (ofv.size : Int))
  · go_wp2
    go_ret
    exact HP.out false _ (fun h => absurd h Bool.false_ne_true) HB0.out
  go_wp2
  clear n0 n1 n2 n3 n4 n5 n6
  obtain ⟨W0, hW0⟩ : ∃ W0, W0 = (w.alloc (.cells #[.int .i64 k0, .string nm, .slice hA head.length hc, .int .i64 ag, .string ofv, .int .i64 lim, .slice bA body.length bc] 27)) := ⟨_, rfl⟩
  have HRF : Hid (Below W0.heap.size W0 (w.alloc (.cells #[.int .i64 k0, .string nm, .slice hA head.length hc, .int .i64 ag, .string ofv, .int .i64 lim, .slice bA body.length bc] 27))) := Lib.hid (by rw [hW0]; exact Below.refl _ _)
  rw [← hW0] at HB0 HBX HOK HZ0
  clear hW0
  go_loopw [3] (fun i wr => ∃ k : Nat, i = .int .i64 k ∧ k ≤ head.length ∧ Below W0.heap.size W0 wr) (fun i _ => head.length - (intOf i).toNat)
  case atStart => exact ⟨0, rfl, by omega, HRF.out⟩
  case round =>
    obtain ⟨k, rfl, hk, hb⟩ := hrel
    have HBK := Lib.hid hb
    have HB := Lib.hid (HB0.out.trans (hb.mono (by rw [HZ0.out]; omega)))
    obtain ⟨_, _, n2, _, _, _, n6⟩ := box7g_of ((hb.block w.heap.size (by rw [HZ0.out]; omega)).trans HBX.out)
    by_cases hlt : k < head.length
    · obtain ⟨s, hs2⟩ : ∃ s, head[k]? = some s := ⟨_, List.getElem?_eq_getElem hlt⟩
      obtain ⟨a, e1, d0⟩ := els_S (HOK.out.1.below hb) hs2
      simp only at e1
      subst e1
      clear hs2 hb
      by_cases z4 : (400 : Int) < (s.size : Int)
      · go_wp2
        go_ret
        exact HP.out false _ (fun h => absurd h Bool.false_ne_true) HB.out
      · go_wp2
        go_roundw
        case rel => exact ⟨k + 1, by go_num, by omega, HBK.out⟩
        case measure => simp [intOf]; omega
    · clear hb
      go_wp2
      clear n2 n6
      go_loopw [4] (fun i w2 => ∃ j : Nat, i = .int .i64 j ∧ j ≤ body.length ∧ Hid (∀ x ∈ body.take j, x.args.length ≤ 100) ∧ Below W0.heap.size W0 w2) (fun i _ => body.length - (intOf i).toNat)
      case atStart => exact ⟨0, rfl, by omega, Lib.hid (by simp), HBK.out⟩
      case round =>
        obtain ⟨j, rfl, hj, HJ, hb2⟩ := hrel
        have HBJ := Lib.hid hb2
        have HB2 := Lib.hid (HB0.out.trans (hb2.mono (by rw [HZ0.out]; omega)))
        obtain ⟨_, _, _, _, _, _, n6⟩ := box7g_of ((hb2.block w.heap.size (by rw [HZ0.out]; omega)).trans HBX.out)
        by_cases hlj : j < body.length
        · obtain ⟨x, hx⟩ : ∃ x, body[j]? = some x := ⟨_, List.getElem?_eq_getElem hlj⟩
          have hxmem := List.mem_of_getElem? hx
          have hxl := (M6.out x hxmem).1
          have HT := Lib.hid (HOK.out.2.2 x hxmem)
          obtain ⟨a, e1, d0, d1, d2, d3⟩ := els_L (HOK.out.below hb2).2.1 hx
          simp only at e1 d0 d1 d2 d3
          subst e1
          have HX := Lib.hid hx
          unfold maxLen at hxl
          clear hxmem hb2
          by_cases z5 : (100 : Int) < (x.args.length : Int)
          · clear hx
            go_wp2
            go_ret
            exact HP.out false _ (fun h => absurd h Bool.false_ne_true) HB2.out
          by_cases z6 : (400 : Int) < (x.s.size : Int)
          · clear hx
            go_wp2
            go_ret
            exact HP.out false _ (fun h => absurd h Bool.false_ne_true) HB2.out
          have HJ2 : Hid (∀ y ∈ body.take (j + 1), y.args.length ≤ 100) := Lib.hid fun y hy => by
            rw [List.take_add_one, HX.out, Option.toList_some] at hy
            rcases List.mem_append.1 hy with h | h
            · exact HJ.out y h
            · rw [List.mem_singleton.1 h]; omega
          clear hx
          go_wp2
          clear n6 d0 d1 d2 d3
          go_loopw [5] (fun i w3 => ∃ u : Nat, i = .int .i64 u ∧ u ≤ x.args.length ∧ Below W0.heap.size W0 w3) (fun i _ => x.args.length - (intOf i).toNat)
          case atStart => exact ⟨0, rfl, by omega, HBJ.out⟩
          case round =>
            obtain ⟨u, rfl, hu, hb3⟩ := hrel
            have HBU := Lib.hid hb3
            have HB3 := Lib.hid (HB0.out.trans (hb3.mono (by rw [HZ0.out]; omega)))
            obtain ⟨_, _, _, _, _, _, n6⟩ := box7g_of ((hb3.block w.heap.size (by rw [HZ0.out]; omega)).trans HBX.out)
            obtain ⟨a2, e2, _, _, d2, _⟩ := els_L (HOK.out.below hb3).2.1 HX.out
            simp only at e2 d2
            injection e2 with e2
            subst e2
            by_cases hlu : u < x.args.length
            · obtain ⟨v, hv⟩ : ∃ v, x.args[u]? = some v := ⟨_, List.getElem?_eq_getElem hlu⟩
              obtain ⟨av, hav, e0, _⟩ := els_T (HT.out.below hb3) hv
              rw [hav] at d2
              clear hv hav hb3
              by_cases z7 : (400 : Int) < (v.s.size : Int)
              · go_wp2
                go_ret
                exact HP.out false _ (fun h => absurd h Bool.false_ne_true) HB3.out
              · go_wp2
                go_roundw
                case rel => exact ⟨u + 1, by go_num, by omega, HBU.out⟩
                case measure => simp [intOf]; omega
            · clear hb3
              go_wp2
              go_roundw
              case rel => exact ⟨j + 1, by go_num, by omega, HJ2, HBU.out⟩
              case measure => simp [intOf]; omega
        · have hjj : body.take j = body := List.take_of_length_le (by omega)
          rw [hjj] at HJ
          clear hjj hb2
          go_wp2
          go_ret
          exact HP.out true _ (fun _ => HF.out (by omega) (by omega) HJ.out) HB2.out
end
end Go.Proofs.Ythdjkagodccdbaa
namespace Go.Proofs.Ythdjkagodccdbaa
section
open Go.RowKit Go.Maps

theorem ArgsAt.els {w : World} {base : Nat} {v : Value} {l : List TmP} (h : ArgsAt w base v l) : ∃ A c, v = .slice A l.length c ∧ ElsAt TmP.cells 6 w A l := by
  rcases h with ⟨rfl, rfl⟩ | ⟨b, c, cur, rfl, _, _, he⟩
  · exact ⟨none, 0, rfl, fun i x hi => by simp at hi⟩
  · exact ⟨_, c, rfl, he⟩
theorem LisAt.lgs {W : World} {base : Nat} {v : Value} {l : List LiP} (h : LisAt W base v l) : ∃ (A : Option Addr) (c : Nat) (body : List LmG), v = .slice A body.length c ∧ body.map LmG.li = l ∧ LgsAt W A body := by
  obtain ⟨qs, h1, h2, h3⟩ := h
  have hsl : ∃ A c, v = .slice A qs.length c ∧ ElsAt LmQ.cells 4 W A qs := by
    rcases h1.slice el_Lm with ⟨rfl, rfl⟩ | ⟨g, c, rfl, _, _, _, he⟩
    · exact ⟨none, 0, rfl, fun i x hi => by simp at hi⟩
    · exact ⟨_, c, rfl, he⟩
  obtain ⟨A, c, rfl, he⟩ := hsl
  have hex : ∀ i : Fin l.length, ∃ g : LmG, l[i.1]? = some g.li ∧ ElsAt TmP.cells 6 W g.A g.args ∧ ∀ q, qs[i.1]? = some q → g.cells = LmQ.cells q := by
    intro i
    obtain ⟨y, hy⟩ : ∃ y, l[i.1]? = some y := ⟨_, List.getElem?_eq_getElem i.2⟩
    obtain ⟨q, hq⟩ : ∃ q, qs[i.1]? = some q := ⟨_, List.getElem?_eq_getElem (by have := i.2; omega)⟩
    obtain ⟨a, b, d, e⟩ := h3 i.1 q y hq hy
    obtain ⟨B, k, hv, hels⟩ := e.els
    refine ⟨⟨y.n, y.s, B, k, y.args, y.o⟩, hy, hels, fun q2 hq2 => ?_⟩
    rw [hq] at hq2
    injection hq2 with hq2
    subst hq2
    unfold LmQ.cells LmP.cells
    rw [a, b, d, hv]
  refine ⟨A, c, List.ofFn fun i => (hex i).choose, by rw [List.length_ofFn, ← h2], ?_, ?_, ?_⟩
  · refine List.ext_getElem? fun i => ?_
    rw [List.getElem?_map, List.getElem?_ofFn]
    by_cases hi : i < l.length
    · rw [dif_pos hi]
      exact ((hex ⟨i, hi⟩).choose_spec.1).symm
    · rw [dif_neg hi, List.getElem?_eq_none (by omega)]
      rfl
  · intro i x hi
    rw [List.getElem?_ofFn] at hi
    by_cases hl : i < l.length
    · rw [dif_pos hl] at hi
      injection hi with hi
      obtain ⟨q, hq⟩ : ∃ q, qs[i]? = some q := ⟨_, List.getElem?_eq_getElem (by omega)⟩
      obtain ⟨a, ha, hc⟩ := he i q hq
      refine ⟨a, ha, fun j u hj => hc j u ?_⟩
      rw [← hi, (hex ⟨i, hl⟩).choose_spec.2.2 q hq] at hj
      exact hj
    · rw [dif_neg hl] at hi
      cases hi
  · intro x hx
    obtain ⟨i, rfl⟩ := List.mem_ofFn.1 hx
    exact (hex i).choose_spec.2.1
/-- What the parser answers is a rule in memory. -/
theorem RuRes.rule {w w' : World} {e : Ending} {R : RuP × Int × Int} (h : RuRes w w' e R) : ∃ G : RuG, e = .returned (.tuple #[.agg G.cells, .int .i64 R.2.1, .int .i64 R.2.2]) ∧ G.pl = R.1 ∧ G.Ok w' ∧ Below w.heap.size w w' := by
  obtain ⟨hv, bv, rfl, h1, h2, h3⟩ := h
  obtain ⟨A, c, rfl, he⟩ := OwnF.els h1
  obtain ⟨B, d, body, rfl, hm, hl⟩ := h2.lgs
  obtain ⟨⟨k, nm, head, ag, ofv, lim, bd⟩, z, y⟩ := R
  simp only at he hm hl h3
  subst hm
  exact ⟨⟨k, nm, A, c, head, ag, ofv, lim, B, d, body⟩, rfl, rfl, ⟨he, hl⟩, h3⟩
def smlX (x : RuP) : Bool := decide (x.head.length ≤ 200) && (decide (x.body.length ≤ 41) && (x.head.all (fun s => decide (s.size ≤ maxLen)) && (decide (x.ofv.size ≤ maxLen) && x.body.all (fun y => decide (y.args.length ≤ 5000) && y.args.all fun t => decide (t.s.size ≤ maxLen)))))
theorem RuG.sml_of {r : RuG} {x : RuP} (h : r.pl = x) (hx : smlX x = true) : r.Sml := by
  subst h
  unfold smlX at hx
  simp only [Bool.and_eq_true, decide_eq_true_eq, List.all_eq_true] at hx
  obtain ⟨h1, h2, h3, h4, h5⟩ := hx
  rw [List.length_map] at h2
  exact ⟨h1, h2, h3, h4, fun y hy => h5 y.li (List.mem_map.2 ⟨y, hy, rfl⟩)⟩

/-- 'deny d(a) if h(b)' -/
def kT1 : ByteArray := ⟨#[100, 101, 110, 121, 32, 100, 40, 97, 41, 32, 105, 102, 32, 104, 40, 98, 41]⟩
/-- 'deny d(a) if h(a), not k(a), a < 3' -/
def kT2 : ByteArray := ⟨#[100, 101, 110, 121, 32, 100, 40, 97, 41, 32, 105, 102, 32, 104, 40, 97, 41, 44, 32, 110, 111, 116, 32, 107, 40, 97, 41, 44, 32, 97, 32, 60, 32, 51]⟩
set_option maxRecDepth 1000000
theorem k1_why : (ruleR kT1.data.toList).2.2 = 0 := by kernel_rfl
theorem k1_sml : smlX (ruleR kT1.data.toList).1 = true := by kernel_rfl
theorem k1_free : freeX (ruleR kT1.data.toList).1 = (⟨#[97]⟩, -1, true) := by kernel_rfl
theorem k1_check : checkX (ruleR kT1.data.toList).1 = (-1, 12) := by kernel_rfl
theorem k2_why : (ruleR kT2.data.toList).2.2 = 0 := by kernel_rfl
theorem k2_sml : smlX (ruleR kT2.data.toList).1 = true := by kernel_rfl
theorem k2_check : checkX (ruleR kT2.data.toList).1 = (0, 0) := by kernel_rfl
end
end Go.Proofs.Ythdjkagodccdbaa
namespace Go.Proofs.Ythdjkagodccdbaa
section
open Go.RowKit Go.Maps

def spB (c : Co) : Bool := decide (c.k = 3) && !c.nl
set_option maxRecDepth 100000 in
set_option maxHeartbeats 2000000 in
theorem k_isSpace {base : Nat} {W : World} {g s vb cb : Nat} {ov : Value} {S : List Sc} {ls : List RS} {U : List Sc} {L : List Co} {m : Nat} (h : KnowAt base W g s vb cb ov S ls U L m) (n : ByteArray) (hn : n.size ≤ maxLen) :
    Calls Try.prog 49 #[.pointer (some ⟨g, 0, none⟩), .string n] W fun e W' => e = .returned (.bool (spB (orC (findC L n)))) ∧ Below W.heap.size W W' := by
  obtain ⟨g0, g1, g2, g3⟩ := cellK h
  have hlk := look_C h.cls n hn
  generalize orC (findC L n) = d at *
  obtain ⟨dn, dk, dl⟩ := d
  unfold Co.val at hlk
  have hz := heap_alloc_new W (.cells #[.string dn, .int .i64 dk, .bool dl] 49)
  obtain ⟨t0, t1, t2⟩ := three_cells hz
  have hon := one_new W (.cells #[.string dn, .int .i64 dk, .bool dl] 49)
  have HON := Lib.hid hon
  clear h hn hz hon
  by_cases h3 : dk = 3
  · have b3 : (dk == 3) = true := by simpa using h3
    have H3 := Lib.hid h3
    clear h3
    go_enter Try.func49, Try.ntmps49
    go_wp2
    go_ret
    exact ⟨by unfold spB; simp only; rw [decide_eq_true H3.out]; rfl, HON.out⟩
  · have b3 : (dk == 3) = false := by simpa using h3
    have H3 := Lib.hid h3
    clear h3
    go_enter Try.func49, Try.ntmps49
    go_wp2
    go_ret
    exact ⟨by unfold spB; simp only; rw [decide_eq_false H3.out]; rfl, HON.out⟩

theorem headF_no (L : List Co) (x : RuP) (n : ByteArray) (hm : n ∈ x.head) (h : findC L n = none) : headF L x = 12 := by
  unfold headF
  rw [if_pos]
  rw [List.any_eq_true]
  exact ⟨n, hm, by rw [h]; rfl⟩
theorem headF_all (L : List Co) (x : RuP) (h : ∀ n ∈ x.head, (findC L n).isSome = true) : headF L x = if ofF L x ≠ 0 then ofF L x else spaceF L x := by
  unfold headF
  rw [if_neg]
  rw [Bool.not_eq_true, List.any_eq_false]
  intro n hn
  have := h n hn
  cases hc : findC L n with
  | none => rw [hc] at this; simp at this
  | some d => simp
theorem ofF_few (L : List Co) (x : RuP) (h : ¬ 1 < x.ag) : ofF L x = 0 := if_neg h
theorem ofF_none (L : List Co) (x : RuP) (h : 1 < x.ag) (hn : findC L x.ofv = none) : ofF L x = 12 := by
  unfold ofF
  rw [if_pos h, hn]
theorem ofF_some (L : List Co) (x : RuP) (h : 1 < x.ag) (d : Co) (hn : findC L x.ofv = some d) : ofF L x = if d.k = 2 ∧ d.nl = false then 0 else 11 := by
  unfold ofF
  rw [if_pos h, hn]
theorem spaceF_nil (L : List Co) (x : RuP) (h : x.head = []) : spaceF L x = 0 := by
  unfold spaceF
  rw [h]
theorem spaceF_not (L : List Co) (x : RuP) (h : x.k ≠ 3) : spaceF L x = 0 := by
  unfold spaceF
  cases x.head with
  | nil => rfl
  | cons a l => exact if_neg fun hh => h hh.1
theorem spaceF_cons (L : List Co) (x : RuP) (n : ByteArray) (l : List ByteArray) (h : x.head = n :: l) (hk : x.k = 3) : spaceF L x = if spB (orC (findC L n)) = true then 0 else 11 := by
  unfold spaceF spB
  rw [h]
  simp only
  by_cases h1 : (orC (findC L n)).k = 3
  · cases h2 : (orC (findC L n)).nl
    · rw [if_neg (fun hh => hh.2 ⟨h1, rfl⟩), if_pos (by simp [h1])]
    · rw [if_pos ⟨hk, fun hh => by have := hh.2; simp at this⟩, if_neg (by simp)]
  · rw [if_pos ⟨hk, fun hh => h1 hh.1⟩, if_neg (by simp [h1])]

set_option maxRecDepth 100000 in
set_option maxHeartbeats 16000000 in
theorem k_head {base : Nat} {W : World} {g s vb cb : Nat} {ov : Value} {S : List Sc} {ls : List RS} {U : List Sc} {L : List Co} {m : Nat} (h : KnowAt base W g s vb cb ov S ls U L m) (r : RuG) (hr : ElsAt strC 1 W r.hA r.head) (hl : r.head.length ≤ 1000) (hsz : ∀ n ∈ r.head, n.size ≤ maxLen) (hof : r.ofv.size ≤ maxLen) :
    Calls Try.prog 31 #[.pointer (some ⟨g, 0, none⟩), .agg r.cells] W fun e W' => e = .returned (.int .i64 (headF L r.pl)) ∧ Below W.heap.size W W' := by
  have HQ0 : Hid (∀ n ∈ r.head, findC L n = none → headF L r.pl = 12) := Lib.hid fun n hn h0 => headF_no L r.pl n hn h0
  have HQ1 : Hid ((∀ n ∈ r.head, (findC L n).isSome = true) → headF L r.pl = if ofF L r.pl ≠ 0 then ofF L r.pl else spaceF L r.pl) := Lib.hid fun h0 => headF_all L r.pl h0
  have HO0 : Hid (¬ 1 < r.ag → ofF L r.pl = 0) := Lib.hid fun h0 => ofF_few L r.pl h0
  have HO1 : Hid (1 < r.ag → findC L r.ofv = none → ofF L r.pl = 12) := Lib.hid fun h0 h1 => ofF_none L r.pl h0 h1
  have HO2 : Hid (1 < r.ag → ∀ d, findC L r.ofv = some d → ofF L r.pl = if d.k = 2 ∧ d.nl = false then 0 else 11) := Lib.hid fun h0 d h1 => ofF_some L r.pl h0 d h1
  have HS0 : Hid (r.head = [] → spaceF L r.pl = 0) := Lib.hid fun h0 => spaceF_nil L r.pl h0
  have HS1 : Hid (r.k ≠ 3 → spaceF L r.pl = 0) := Lib.hid fun h0 => spaceF_not L r.pl h0
  have HS2 : Hid (∀ n l, r.head = n :: l → r.k = 3 → spaceF L r.pl = if spB (orC (findC L n)) = true then 0 else 11) := Lib.hid fun n l h0 h1 => spaceF_cons L r.pl n l h0 h1
  have HOV : Hid (∀ w, Calls Try.prog 33 #[.agg r.cells] w fun e w' => e = .returned (.bool (decide (1 < r.ag))) ∧ Below w.heap.size w w') := Lib.hid fun w => t_ofVar r w
  generalize headF L r.pl = q at *
  generalize ofF L r.pl = qo at *
  generalize spaceF L r.pl = qs at *
  obtain ⟨k0, nm, hA, hc, head, ag, ofv, lim, bA, bc, body⟩ := r
  simp only at hr hl hsz hof HQ0 HQ1 HO0 HO1 HO2 HS0 HS1 HS2
  show Calls Try.prog 31 #[.pointer (some ⟨g, 0, none⟩), .agg #[.int .i64 k0, .string nm, .slice hA head.length hc, .int .i64 ag, .string ofv, .int .i64 lim, .slice bA body.length bc]] W fun e W' => e = .returned (.int .i64 q) ∧ Below W.heap.size W W'
  obtain ⟨bl, hbl⟩ : ∃ bl, body.length = bl := ⟨_, rfl⟩
  obtain ⟨hn, hhn⟩ : ∃ hn, head.length = hn := ⟨_, rfl⟩
  have HHN := Lib.hid hhn
  have hov : Hid (∀ w, Calls Try.prog 33 #[.agg #[.int .i64 k0, .string nm, .slice hA hn hc, .int .i64 ag, .string ofv, .int .i64 lim, .slice bA bl bc]] w fun e w' => e = .returned (.bool (decide (1 < ag))) ∧ Below w.heap.size w w') := by rw [← hbl, ← hhn]; exact HOV
  rw [hbl, hhn]
  rw [hhn] at hl
  have hon := one_new W (.cells #[.int .i64 k0, .string nm, .slice hA hn hc, .int .i64 ag, .string ofv, .int .i64 lim, .slice bA bl bc] 27)
  have hbx := heap_alloc_new W (.cells #[.int .i64 k0, .string nm, .slice hA hn hc, .int .i64 ag, .string ofv, .int .i64 lim, .slice bA bl bc] 27)
  have hz0 : (W.alloc (.cells #[.int .i64 k0, .string nm, .slice hA hn hc, .int .i64 ag, .string ofv, .int .i64 lim, .slice bA bl bc] 27)).heap.size = W.heap.size + 1 := World.size_alloc _ _
  obtain ⟨w0, hw0⟩ : ∃ w0, W.alloc (.cells #[.int .i64 k0, .string nm, .slice hA hn hc, .int .i64 ag, .string ofv, .int .i64 lim, .slice bA bl bc] 27) = w0 := ⟨_, rfl⟩
  rw [hw0] at hon hbx hz0
  have HR : Hid (∀ w, Below w0.heap.size w0 w → w.cell? ⟨W.heap.size, 0, none⟩ = some (.int .i64 k0) ∧ w.cell? ⟨W.heap.size, 1, none⟩ = some (.string nm) ∧ w.cell? ⟨W.heap.size, 2, none⟩ = some (.slice hA hn hc) ∧ w.cell? ⟨W.heap.size, 3, none⟩ = some (.int .i64 ag) ∧ w.cell? ⟨W.heap.size, 4, none⟩ = some (.string ofv) ∧ w.cell? ⟨W.heap.size, 5, none⟩ = some (.int .i64 lim) ∧ w.cell? ⟨W.heap.size, 6, none⟩ = some (.slice bA bl bc)) := Lib.hid fun w hw => box7g_of ((hw.block W.heap.size (by omega)).trans hbx)
  have HON := Lib.hid hon
  have HK : Hid (∀ w, Below w0.heap.size w0 w → KnowAt base w g s vb cb ov S ls U L m) := Lib.hid fun w hw => h.below (hon.trans (hw.mono hon.size))
  have HX : Hid (∀ w, Below w0.heap.size w0 w → ElsAt strC 1 w hA head) := Lib.hid fun w hw => hr.below (hon.trans (hw.mono hon.size))
  have HSZ := Lib.hid hsz
  have HOF := Lib.hid hof
  have HW0 := Lib.hid hw0
  clear h hr hsz hof hon hbx hz0 HOV hbl hhn
  have hw0 := HW0.out
  subst hw0
  clear HW0
  obtain ⟨n0, n1, n2, n3, n4, n5, n6⟩ := HR.out _ (Below.refl _ _)
  go_enter Try.func31, Try.ntmps31
  go_wp2
  obtain ⟨W0, hW0⟩ : ∃ W0, W0 = W.alloc (.cells #[.int .i64 k0, .string nm, .slice hA hn hc, .int .i64 ag, .string ofv, .int .i64 lim, .slice bA bl bc] 27) := ⟨_, rfl⟩
  rw [← hW0] at HR HON HK HX
  have HRF : Hid (Below W0.heap.size W0 (W.alloc (.cells #[.int .i64 k0, .string nm, .slice hA hn hc, .int .i64 ag, .string ofv, .int .i64 lim, .slice bA bl bc] 27))) := Lib.hid (by rw [hW0]; exact Below.refl _ _)
  clear hW0 n0 n1 n2 n3 n4 n5 n6
  go_loopw [14] (fun i wr => ∃ k : Nat, i = .int .i64 k ∧ k ≤ hn ∧ Hid (∀ n ∈ head.take k, (findC L n).isSome = true) ∧ Below W0.heap.size W0 wr) (fun i _ => hn - (intOf i).toNat)
  case atStart => exact ⟨0, rfl, Nat.zero_le _, Lib.hid (fun n hn => by simp at hn), HRF.out⟩
  case round =>
    obtain ⟨k, rfl, hk, HAL, hb⟩ := hrel
    have HB := Lib.hid hb
    have hkr := HK.out wr hb
    obtain ⟨g0, g1, g2, g3⟩ := cellK hkr
    obtain ⟨n0, n1, n2, n3, n4, n5, n6⟩ := HR.out wr hb
    by_cases hlt : k < hn
    · obtain ⟨t, ht⟩ : ∃ t, head[k]? = some t := ⟨_, List.getElem?_eq_getElem (by rw [HHN.out]; exact hlt)⟩
      obtain ⟨a, rfl, a0⟩ := els_S (HX.out wr hb) ht
      have htm := List.mem_of_getElem? ht
      have hlk := look_C2 hkr.cls t (HSZ.out t htm)
      cases hf : findC L t with
      | none =>
        rw [hf] at hlk
        have hlk2 : (Instr.lookup 86 (.map (some cb)) (.string t) true).run Try.prog wr = .ok (.tuple #[.agg #[.string ⟨#[]⟩, .int .i64 0, .bool false], .bool false]) wr := hlk
        have HQ := Lib.hid (HQ0.out t htm hf)
        clear hb hkr ht htm hlk hf
        go_wp2
        go_ret
        exact ⟨by rw [HQ.out]; rfl, HON.out.trans ((HB.out.trans ((one_new wr _).mono HB.out.size)).mono HON.out.size)⟩
      | some d =>
        rw [hf] at hlk
        obtain ⟨dn, dk, dl⟩ := d
        have hlk2 : (Instr.lookup 86 (.map (some cb)) (.string t) true).run Try.prog wr = .ok (.tuple #[.agg #[.string dn, .int .i64 dk, .bool dl], .bool true]) wr := hlk
        have HAL2 : Hid (∀ n ∈ head.take (k + 1), (findC L n).isSome = true) := Lib.hid fun n hn => by
          rw [List.take_add_one, ht] at hn
          rcases List.mem_append.1 hn with hn | hn
          · exact HAL.out n hn
          · have e : n = t := by simpa using hn
            rw [e, hf]; rfl
        clear hb hkr ht htm hlk hf
        go_wp2
        go_roundw
        case rel => exact ⟨k + 1, by go_num, by omega, HAL2, HB.out.trans ((one_new wr _).mono HB.out.size)⟩
        case measure => simp [intOf]; omega
    · have hall : ∀ n ∈ head, (findC L n).isSome = true := by
        have := HAL.out
        rw [List.take_of_length_le (by rw [HHN.out]; omega)] at this
        exact this
      have HQ := Lib.hid (HQ1.out hall)
      have honz := one_new wr (.cells #[.string ⟨#[]⟩, .int .i64 0, .bool false] 49)
      obtain ⟨-, -, -, -, x4, -, -⟩ := HR.out _ (hb.trans (honz.mono hb.size))
      have hkz := hkr.below honz
      obtain ⟨-, -, y2, -⟩ := cellK hkz
      have hlk := look_C2 hkr.cls ofv HOF.out
      have hlk2 : (Instr.lookup 86 (.map (some cb)) (.string ofv) true).run Try.prog wr.drew = _ := look_C2 (W := wr.drew) hkr.cls ofv HOF.out
      have hlz : (Instr.lookup 86 (.map (some cb)) (.string ofv) true).run Try.prog (wr.alloc (.cells #[.string ⟨#[]⟩, .int .i64 0, .bool false] 49)).drew = _ := look_C2 (W := (wr.alloc (.cells #[.string ⟨#[]⟩, .int .i64 0, .bool false] 49)).drew) hkz.cls ofv HOF.out
      have HO1' : Hid (1 < ag → (findC L ofv).isSome = false → qo = 12) := Lib.hid fun h1 h2 => HO1.out h1 (by cases hf : findC L ofv with
        | none => rfl
        | some d => rw [hf] at h2; simp at h2)
      have HO2' : Hid (1 < ag → (findC L ofv).isSome = true → qo = if (orC (findC L ofv)).k = 2 ∧ (orC (findC L ofv)).nl = false then 0 else 11) := Lib.hid fun h1 h2 => by
        cases hf : findC L ofv with
        | none => rw [hf] at h2; simp at h2
        | some d => exact HO2.out h1 d hf
      generalize (findC L ofv).isSome = z at *
      generalize orC (findC L ofv) = d at *
      obtain ⟨dn, dk, dl⟩ := d
      simp only at HO2'
      unfold Co.val at hlk hlk2 hlz
      have hcz : ∀ w : World, w.heap.size = wr.heap.size → True := fun _ _ => trivial
      have HOND := Lib.hid (hb.trans ((one_new wr (.cells #[.string dn, .int .i64 dk, .bool dl] 49)).drew.mono hb.size))
      have HBD := Lib.hid (heap_alloc_new wr (.cells #[.string dn, .int .i64 dk, .bool dl] 49))
      have HSP : Hid (k0 = 3 → ∀ t l, head = t :: l → ∀ w, Below W0.heap.size W0 w → Calls Try.prog 49 #[.pointer (some ⟨g, 0, none⟩), .string t] w fun e w' => e = .returned (.bool (spB (orC (findC L t)))) ∧ Below w.heap.size w w') := Lib.hid fun _ t l ht w hw => k_isSpace (HK.out w hw) t (HSZ.out t (by rw [ht]; exact List.mem_cons_self ..))
      clear hb hkr honz hkz hcz HO1 HO2 hall
      go_wp2
      go_region
      all_goals
        clear hlk hlk2 hlz x4 y2 g0 g1 g2 g3 n0 n1 n2 n3 n4 n5 n6
        obtain ⟨wd, hwd⟩ : ∃ wd, (wr.alloc (.cells #[.string dn, .int .i64 dk, .bool dl] 49)).drew = wd := ⟨_, rfl⟩
        have HCD : Hid (∀ w, Below wd.heap.size wd w → w.cell? ⟨wr.heap.size, 0, none⟩ = some (.string dn) ∧ w.cell? ⟨wr.heap.size, 1, none⟩ = some (.int .i64 dk) ∧ w.cell? ⟨wr.heap.size, 2, none⟩ = some (.bool dl)) := Lib.hid fun w hw => three_cells ((hw.block wr.heap.size (by rw [← hwd]; show wr.heap.size < (wr.alloc _).heap.size; rw [World.size_alloc]; omega)).trans (by rw [← hwd]; exact HBD.out))
        rw [hwd] at HOND
        try rw [hwd]
        clear hwd HBD
        obtain ⟨n0, n1, n2, n3, n4, n5, n6⟩ := HR.out wd HOND.out
        obtain ⟨d0, d1, d2⟩ := HCD.out wd (Below.refl _ _)
        go_wp2_with fail
        refine (hov.out _).mono ?_
        rintro e w2 ⟨rfl, hb2⟩
        have HB2 := Lib.hid (HOND.out.trans (hb2.mono HOND.out.size))
        have HB2d := Lib.hid hb2
        clear n0 n1 n2 n3 n4 n5 n6 d0 d1 d2 hb2
        obtain ⟨n0, n1, n2, n3, n4, n5, n6⟩ := HR.out w2 HB2.out
        obtain ⟨d0, d1, d2⟩ := HCD.out w2 HB2d.out
        by_cases hag : 1 < ag
        · have HAG := Lib.hid hag
          have eag : decide (1 < ag) = true := decide_eq_true hag
          rw [eag] at hov
          rw [eag]
          clear hag eag
          cases z with
          | false =>
            have HQO := Lib.hid (HO1'.out HAG.out rfl)
            go_wp2
            go_ret
            exact ⟨by rw [HQ.out, HQO.out]; rfl, HON.out.trans (HB2.out.mono HON.out.size)⟩
          | true =>
            have HQO' := Lib.hid (HO2'.out HAG.out rfl)
            go_wp2_with fail
            refine (hov.out _).mono ?_
            rintro e w3 ⟨rfl, hb3⟩
            have HB3 := Lib.hid (HB2.out.trans (hb3.mono HB2.out.size))
            have HB3d := Lib.hid (HB2d.out.trans (hb3.mono HB2d.out.size))
            clear n0 n1 n2 n3 n4 n5 n6 d0 d1 d2 hb3
            obtain ⟨n0, n1, n2, n3, n4, n5, n6⟩ := HR.out w3 HB3.out
            obtain ⟨d0, d1, d2⟩ := HCD.out w3 HB3d.out
            by_cases hdk : dk = 2
            · have HDK := Lib.hid hdk
              have bd : (dk != 2) = false := by simpa using hdk
              clear hdk
              cases dl with
              | true =>
                have HQO := Lib.hid (HQO'.out.trans (if_neg (by simp)))
                go_wp2
                go_ret
                exact ⟨by rw [HQ.out, HQO.out]; rfl, HON.out.trans (HB3.out.mono HON.out.size)⟩
              | false =>
                have HQO := Lib.hid (HQO'.out.trans (if_pos ⟨HDK.out, rfl⟩))
                by_cases hk3 : k0 = 3
                · have HK3 := Lib.hid hk3
                  have bk : (k0 == 3) = true := by simpa using hk3
                  clear hk3
                  cases head with
                  | nil =>
                    have hn0 : hn = 0 := HHN.out.symm
                    have bn : ¬ 0 < hn := by rw [hn0]; omega
                    have HQS := Lib.hid (HS0.out rfl)
                    clear hn0
                    go_wp2
                    go_ret
                    exact ⟨by rw [HQ.out, HQO.out, HQS.out]; rfl, HON.out.trans (HB3.out.mono HON.out.size)⟩
                  | cons tt tl =>
                    have hn0 : hn = tl.length + 1 := HHN.out.symm
                    have bn : 0 < hn := by rw [hn0]; omega
                    have HQS := Lib.hid (HS2.out tt tl rfl HK3.out)
                    have HSC := Lib.hid (HSP.out HK3.out tt tl rfl w3 HB3.out)
                    obtain ⟨ah, rfl, ah0⟩ := els_S (i := 0) (HX.out w3 HB3.out) rfl
                    have ah1 : w3.cell? ah = some (.string tt) := by simpa [Addr.add] using ah0
                    have hpos : (0 : Int) < (hn : Int) := by rw [hn0]; omega
                    generalize spB (orC (findC L tt)) = sb at *
                    clear hn0 ah0
                    cases sb with
                    | true =>
                      go_wp2_with fail
                      refine HSC.out.mono ?_
                      rintro e w8 ⟨rfl, hb8⟩
                      have HB8 := Lib.hid (HB3.out.trans (hb8.mono HB3.out.size))
                      clear hb8
                      go_wp2
                      go_ret
                      exact ⟨by rw [HQ.out, HQO.out, HQS.out]; rfl, HON.out.trans (HB8.out.mono HON.out.size)⟩
                    | false =>
                      go_wp2_with fail
                      refine HSC.out.mono ?_
                      rintro e w8 ⟨rfl, hb8⟩
                      have HB8 := Lib.hid (HB3.out.trans (hb8.mono HB3.out.size))
                      clear hb8
                      go_wp2
                      go_ret
                      exact ⟨by rw [HQ.out, HQO.out, HQS.out]; rfl, HON.out.trans (HB8.out.mono HON.out.size)⟩
                · have bk : (k0 == 3) = false := by simpa using hk3
                  have HQS := Lib.hid (HS1.out hk3)
                  clear hk3
                  go_wp2
                  go_ret
                  exact ⟨by rw [HQ.out, HQO.out, HQS.out]; rfl, HON.out.trans (HB3.out.mono HON.out.size)⟩
            · have bd : (dk != 2) = true := by simpa using hdk
              have HQO := Lib.hid (HQO'.out.trans (if_neg (fun hh => hdk hh.1)))
              clear hdk
              go_wp2
              go_ret
              exact ⟨by rw [HQ.out, HQO.out]; rfl, HON.out.trans (HB3.out.mono HON.out.size)⟩
        · have eag : decide (1 < ag) = false := decide_eq_false hag
          have HQO := Lib.hid (HO0.out (by omega))
          rw [eag] at hov
          rw [eag]
          clear hag eag
          go_wp2_with fail
          refine (hov.out _).mono ?_
          rintro e w3 ⟨rfl, hb3⟩
          have HB3 := Lib.hid (HB2.out.trans (hb3.mono HB2.out.size))
          have HB3d := Lib.hid (HB2d.out.trans (hb3.mono HB2d.out.size))
          clear n0 n1 n2 n3 n4 n5 n6 d0 d1 d2 hb3
          obtain ⟨n0, n1, n2, n3, n4, n5, n6⟩ := HR.out w3 HB3.out
          obtain ⟨d0, d1, d2⟩ := HCD.out w3 HB3d.out
          by_cases hk3 : k0 = 3
          · have HK3 := Lib.hid hk3
            have bk : (k0 == 3) = true := by simpa using hk3
            clear hk3
            cases head with
            | nil =>
              have hn0 : hn = 0 := HHN.out.symm
              have bn : ¬ 0 < hn := by rw [hn0]; omega
              have HQS := Lib.hid (HS0.out rfl)
              clear hn0
              go_wp2
              go_ret
              exact ⟨by rw [HQ.out, HQO.out, HQS.out]; rfl, HON.out.trans (HB3.out.mono HON.out.size)⟩
            | cons tt tl =>
              have hn0 : hn = tl.length + 1 := HHN.out.symm
              have bn : 0 < hn := by rw [hn0]; omega
              have HQS := Lib.hid (HS2.out tt tl rfl HK3.out)
              have HSC := Lib.hid (HSP.out HK3.out tt tl rfl w3 HB3.out)
              obtain ⟨ah, rfl, ah0⟩ := els_S (i := 0) (HX.out w3 HB3.out) rfl
              have ah1 : w3.cell? ah = some (.string tt) := by simpa [Addr.add] using ah0
              have hpos : (0 : Int) < (hn : Int) := by rw [hn0]; omega
              generalize spB (orC (findC L tt)) = sb at *
              clear hn0 ah0
              cases sb with
              | true =>
                go_wp2_with fail
                refine HSC.out.mono ?_
                rintro e w8 ⟨rfl, hb8⟩
                have HB8 := Lib.hid (HB3.out.trans (hb8.mono HB3.out.size))
                clear hb8
                go_wp2
                go_ret
                exact ⟨by rw [HQ.out, HQO.out, HQS.out]; rfl, HON.out.trans (HB8.out.mono HON.out.size)⟩
              | false =>
                go_wp2_with fail
                refine HSC.out.mono ?_
                rintro e w8 ⟨rfl, hb8⟩
                have HB8 := Lib.hid (HB3.out.trans (hb8.mono HB3.out.size))
                clear hb8
                go_wp2
                go_ret
                exact ⟨by rw [HQ.out, HQO.out, HQS.out]; rfl, HON.out.trans (HB8.out.mono HON.out.size)⟩
          · have bk : (k0 == 3) = false := by simpa using hk3
            have HQS := Lib.hid (HS1.out hk3)
            clear hk3
            go_wp2
            go_ret
            exact ⟨by rw [HQ.out, HQO.out, HQS.out]; rfl, HON.out.trans (HB3.out.mono HON.out.size)⟩
end
end Go.Proofs.Ythdjkagodccdbaa
