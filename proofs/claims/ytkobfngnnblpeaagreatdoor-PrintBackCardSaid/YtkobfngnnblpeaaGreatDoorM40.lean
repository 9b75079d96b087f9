/-
  The program's parser: a rule's body.
  Condition: no more than four hundred tokens, and one that is left.
  The program's parser: a rule's box while it is read; an aggregate.
  Condition: no more than four hundred tokens, and one that is left.
-/
import Derived.Test.YtkobfngnnblpeaaGreatDoorM36
import Derived.Test.YtkobfngnnblpeaaGreatDoorM39
namespace Go.Proofs.YtkobfngnnblpeaaGreatDoor
section
open Go.RowKit

/-- What is read at last; or what is handed up. -/
def ResE {α : Type} (w : World) (g : Nat) (V : α → Value → World → Prop) (p : PR α) (e : Ending) (w' : World) : Prop := OnlyR g w w' ∧ match p with
  | .ok a _ => ∃ v, e = .returned v ∧ V a v w'
  | .bad a y => e = faultE a y
theorem ResE.ok {α : Type} {w w' : World} {g : Nat} {V : α → Value → World → Prop} {p : PR α} {a : α} {r : List Tok} {v : Value} (ho : OnlyR g w w') (hp : p = .ok a r) (hv : V a v w') : ResE w g V p (.returned v) w' := by
  subst hp
  exact ⟨ho, v, rfl, hv⟩
theorem ResE.bad {α : Type} {w w' : World} {g : Nat} {V : α → Value → World → Prop} {p : PR α} {a y : Int} (ho : OnlyR g w w') (hp : p = .bad a y) : ResE w g V p (faultE a y) w' := by
  subst hp
  exact ⟨ho, rfl⟩
theorem ResE.cases {α : Type} {w w' : World} {g : Nat} {V : α → Value → World → Prop} {p : PR α} {e : Ending} (h : ResE w g V p e w') :
    (∃ a v r, p = .ok a r ∧ e = .returned v ∧ V a v w' ∧ OnlyR g w w') ∨ ∃ a y, p = .bad a y ∧ e = faultE a y ∧ OnlyR g w w' := by
  obtain ⟨ho, h⟩ := h
  cases p with
  | ok a r =>
    obtain ⟨v, h1, h2⟩ := h
    exact .inl ⟨a, v, r, rfl, h1, h2, ho⟩
  | bad a y => exact .inr ⟨a, y, rfl, h, ho⟩
theorem litP_len {l : List LiP} {ts : List Tok} {x : LiP} {r : List Tok} (h : litP l ts = .ok x r) : l.length ≠ 10 := by
  intro e
  unfold litP at h
  by_cases hc : hasP ts wNot = false ∧ isTm (hdT ts) = false
  · rw [if_pos hc] at h
    cases h
  · rw [if_neg hc, if_pos e] at h
    cases h
theorem litP_le {ls : List Tok} {j j1 : Nat} {l : List LiP} {x : LiP} (hA : AtI ls j) (hl : l.length < 10) (hm : atmN l ≤ 6) (h : litP l (ls.drop j) = .ok x (ls.drop j1)) (h1 : j1 < ls.length) : j ≤ j1 := by
  have he := hA.at.lit l hl hm
  have h' : litP l (ls.drop (⟨j, 0, 0⟩ : Rst).i) = .ok x (ls.drop j1) := h
  rw [h'] at he
  obtain ⟨_, _, hr, _⟩ := he
  have hj := drop_inj hr h1
  have hle := liR_le ls (atmN l) ⟨j, 0, 0⟩
  rw [hj]
  exact hle
theorem LisAt.snoc {W W2 : World} {base : Nat} {v v' : Value} {l : List LiP} {qs : List LmQ} {q : LmQ} {y : LiP} (hq : OwnLq W base v qs) (hlen : qs.length = l.length)
    (hrel : ∀ (i : Nat) (q : LmQ) (y : LiP), qs[i]? = some q → l[i]? = some y → q.1.n = y.n ∧ q.1.s = y.s ∧ q.1.o = y.o ∧ ArgsAt W base q.1.v y.args)
    (hy : q.1.n = y.n ∧ q.1.s = y.s ∧ q.1.o = y.o ∧ ArgsAt W base q.1.v y.args) (hg : W.grownBy W2 v.ownBlock) (ho : OwnLq W2 base v' (qs ++ [q])) : LisAt W2 base v' (l ++ [y]) := by
  have hAr : ∀ {u : Value} {l : List TmP}, ArgsAt W base u l → ArgsAt W2 base u l := fun h => h.byBlock fun b cur hb hh => by
    refine hg.block b (Array.getElem?_eq_some_iff.1 hh).1 fun e => ?_
    rcases hq.2 with ⟨hn, _⟩ | ⟨g', cap, cur', hvv, _, hh', _⟩
    · rw [hn] at e; cases e
    · rw [hvv] at e
      have e' : b = g' := by injection e
      rw [e', hh'] at hh
      injection hh with hh
      injection hh with _ h4
      exact absurd h4 (by decide)
  refine ⟨qs ++ [q], ho, by rw [List.length_append, List.length_append, hlen]; rfl, fun i q' y' h1 h2 => ?_⟩
  by_cases hi : i < qs.length
  · rw [List.getElem?_append_left hi] at h1
    rw [List.getElem?_append_left (by omega)] at h2
    obtain ⟨a, b, c, d⟩ := hrel i q' y' h1 h2
    exact ⟨a, b, c, hAr d⟩
  · rw [List.getElem?_append_right (by omega)] at h1
    rw [List.getElem?_append_right (by omega)] at h2
    have hi0 : i - qs.length = 0 := by
      have := (List.getElem?_eq_some_iff.1 h1).1
      simp at this
      omega
    rw [hi0] at h1
    rw [← hlen, hi0] at h2
    have e1 : q = q' := by simpa using h1
    have e2 : y = y' := by simpa using h2
    subst e1 e2
    obtain ⟨a, b, c, d⟩ := hy
    exact ⟨a, b, c, hAr d⟩
def qvM (m : Value) : Nat := match m with
  | .bool true => 1
  | _ => 0
set_option maxRecDepth 100000 in
set_option maxHeartbeats 4000000 in
theorem k_body {w : World} {g t i : Nat} {ls : List Tok} (h : RdK w g t ls i) (hA : AtI ls i) :
    Calls Tryz.prog 36 #[.pointer (some ⟨g, 0, none⟩)] w (ResE w g (fun l v w' => LisAt w' w.heap.size v l) (boGo 400 [] (ls.drop i))) := by
  have hg := h.lt
  have ht := h.tlt (by have := hA.i; omega)
  have HG := Lib.hid hA.g
  have HR0 := Lib.hid h
  have HA0 := Lib.hid hA
  obtain ⟨R, hR⟩ : ∃ R, boGo 400 [] (ls.drop i) = R := ⟨_, rfl⟩
  have HP := Lib.hid hR.symm
  rw [hR]
  clear h hA hR
  go_enter Tryz.func36, Tryz.ntmps36
  go_wp2
  go_loopw [3, 4] (fun v m wr => ∃ (q : Bool) (f : Nat) (l : List LiP) (j : Nat), m = .bool q ∧ l.length ≤ 10 ∧ atmN l ≤ 6 ∧ LisAt wr w.heap.size v l ∧ RdK wr g t ls j ∧ AtI ls j ∧ (q = true → ls.length ≤ j + f) ∧ Hid (R = if q = true then boGo f l (ls.drop j) else if (hdT (ls.drop j)).k = 4 then .ok l (ls.drop (j + 1)) else .bad (hdT (ls.drop j)).a 7) ∧ OnlyR g w wr) (fun _ m wr => 2 * leftK wr g + qvM m)
  case atStart => exact ⟨true, 400, [], i, rfl, by simp, by simp [atmN], LisAt.nil _ _, HR0.out, HA0.out, fun _ => by have := HG.out.2; omega, Lib.hid HP.out, OnlyR.refl _ _⟩
  case round =>
    clear HR0 HA0 HP
    obtain ⟨q, f, l, j, rfl, hl, hm, hli, hr, hj, hf, HA, ho⟩ := hrel
    have HO := Lib.hid ho
    have HL := Lib.hid hli
    have HR := Lib.hid hr
    have HJ := Lib.hid hj
    have hsz := ho.size
    obtain ⟨_, A, cc, hvv, _⟩ := hli.atoms
    subst hvv
    cases q with
    | true =>
      have hji := hj.i
      have hf := hf rfl
      obtain ⟨f', hf'⟩ : ∃ f', f = f' + 1 := ⟨f - 1, by omega⟩
      subst hf'
      have HA2 : Hid (R = (litP l (ls.drop j)).bind fun x r => if hasP r wComma = true then boGo f' (l ++ [x]) r.tail else if (hdT r).k = 4 then .ok (l ++ [x]) r.tail else .bad (hdT r).a 7) := Lib.hid (by rw [HA.out, if_pos rfl, boGo])
      have HLT := Lib.hid (k_literal hr hj l A cc hli (by omega) hl)
      have HLF := Lib.hid hr.left
      have HM := Lib.hid hm
      clear ho hli hr hj HA hm
      go_wp2_with fail
      refine HLT.out.mono ?_
      intro e w3 hres
      rcases ResP.cases HG.out hres with ⟨x, v, j1, hp, rfl, hv, hj1, hr3, ho3⟩ | ⟨a', y, hp, rfl, ho3⟩
      · have h10 := litP_len hp
        have hjl := litP_le HJ.out (by omega) HM.out hp hj1.i
        have hm2 := litP_atoms hp HM.out
        have HA3 : Hid (R = if hasP (ls.drop j1) wComma = true then boGo f' (l ++ [x]) (ls.drop (j1 + 1)) else if (hdT (ls.drop j1)).k = 4 then .ok (l ++ [x]) (ls.drop (j1 + 1)) else .bad (hdT (ls.drop j1)).a 7) := Lib.hid (by rw [HA2.out, bind_go hp, List.tail_drop])
        have hs3 := ho3.size
        have HO3 := Lib.hid (HO.out.trans ho3)
        have hl3 := HL.out.byBlock fun b hb hlt => ho3.2 b hlt (by omega)
        obtain ⟨u, rfl, hu⟩ := hv
        have hu3 := hu.lower (show w.heap.size ≤ wr.heap.size from hsz)
        obtain ⟨xn, xs, xargs, xo⟩ := x
        obtain ⟨yA, yl, yc, hus⟩ : ∃ A n c, u = .slice A n c := by
          rcases hu with ⟨e, _⟩ | ⟨g', c', _, e, _⟩
          · exact ⟨_, _, _, e⟩
          · exact ⟨_, _, _, e⟩
        subst hus
        have hbb := one_new w3 (.cells #[.bool xn, .string xs, .slice yA yl yc, .int .i64 xo] 50)
        have HBB := Lib.hid hbb
        have hl4 := hl3.byBlock fun b hb hlt => hbb.block b hlt
        have hu4 : ArgsAt (w3.alloc (.cells #[.bool xn, .string xs, .slice yA yl yc, .int .i64 xo] 50)) w.heap.size (.slice yA yl yc) xargs := hu3.byBlock fun b cur hb hh => hbb.block b (Array.getElem?_eq_some_iff.1 hh).1
        obtain ⟨qs, hq, hlen, hrel⟩ := hl4
        have q2 := lit_F LmQ.cells w3 ⟨⟨xn, xs, .slice yA yl yc, xo⟩, rfl⟩ #[.bool xn, .string xs, .slice yA yl yc, .int .i64 xo] 50 rfl
        have q3 : qs.length ≤ 1000000 := by omega
        have q6 : (qs ++ ([⟨⟨xn, xs, .slice yA yl yc, xo⟩, rfl⟩] : List LmQ)).length = l.length + 1 := by rw [List.length_append, hlen]; rfl
        have q7 : (l ++ [(⟨xn, xs, xargs, xo⟩ : LiP)]).length = l.length + 1 := by rw [List.length_append]; rfl
        have HQ := Lib.hid hq
        have HREL := Lib.hid hrel
        have HU4 := Lib.hid hu4
        have HR4 := Lib.hid (hr3.below hbb)
        have HO4 := Lib.hid (HO3.out.trans (OnlyR.of (g := g) hbb))
        have HJ1 := Lib.hid hj1
        have HM2 := Lib.hid hm2
        clear hp hj1 hr3 ho3 hres HLT HA2 hl3 hu hu3 hu4 hbb hq hrel hm2 HM HO HL HR
        go_wp2_with (at_builtin; refine wp_append_F el_Lm _ rfl (.tmp 9) (.tmp 13) rfl w.heap.size (.slice A l.length cc) qs ⟨⟨xn, xs, .slice yA yl yc, xo⟩, rfl⟩ rfl (by exact HQ.out) ⟨w3.heap.size, 0, none⟩ 1 rfl (by exact q2) q3 (by simp; omega) ?_; intro v' w6 hown' hb6 hgrow hor; obtain ⟨A6, c6, hv6⟩ := hown'.shape; rw [q6] at hv6; subst hv6; have HL6 := Lib.hid (LisAt.snoc (y := ⟨xn, xs, xargs, xo⟩) HQ.out hlen HREL.out ⟨rfl, rfl, rfl, HU4.out⟩ hgrow hown'); have HR6 := Lib.hid (RdK.grown (base := w.heap.size) HR4.out hgrow (fun k hk => (HQ.out.lt k hk).1) hg ht); have HO6 := Lib.hid (OnlyR.grown (base := w.heap.size) HO4.out rfl hgrow (fun k hk => (HQ.out.lt k hk).1)); have HHS := Lib.hid (k_hasL HR6.out HJ1.out ⟨#[44]⟩ wComma (by decide) rfl); clear hown' hb6 hgrow hor)
        generalize hasP (ls.drop j1) wComma = q7' at *
        refine HHS.out.mono ?_
        rintro e w7 ⟨rfl, ho7, hr1, hr0⟩
        have HO7 := Lib.hid (HO6.out.trans ho7)
        have HL7 := Lib.hid (HL6.out.byBlock fun b hb hlt => ho7.2 b hlt (by omega))
        cases q7' with
        | true =>
          obtain ⟨hi7, hr7⟩ := hr1 (by trivial)
          have HI7 := Lib.hid hi7
          have HR7 := Lib.hid hr7
          clear hr1 hr0 ho7 HHS hi7 hr7
          go_wp2
          go_roundw
          case rel => exact ⟨true, f', l ++ [⟨xn, xs, xargs, xo⟩], j1 + 1, rfl, by rw [q7]; omega, HM2.out, HL7.out, HR7.out, HI7.out, fun _ => by omega, Lib.hid (by rw [HA3.out]; rfl), HO7.out⟩
          case measure =>
            rw [HR7.out.left, HLF.out]
            have := HI7.out.i
            simp only [qvM]
            omega
        | false =>
          have HR7 := Lib.hid (hr0 (by trivial))
          clear hr1 hr0 ho7 HHS
          go_wp2
          go_roundw
          case rel => exact ⟨false, f', l ++ [⟨xn, xs, xargs, xo⟩], j1, rfl, by rw [q7]; omega, HM2.out, HL7.out, HR7.out, HJ1.out, (fun e => by cases e), Lib.hid (by rw [HA3.out]; rfl), HO7.out⟩
          case measure =>
            rw [HR7.out.left, HLF.out]
            have := HJ1.out.i
            simp only [qvM]
            omega
      · have HO3 := Lib.hid (HO.out.trans ho3)
        have HA3 : Hid (R = .bad a' y) := Lib.hid (by rw [HA2.out, bind_bad hp])
        clear hp ho3 hres HLT HA2
        go_wp2
        exact ⟨rfl, ResE.bad HO3.out HA3.out⟩
    | false =>
      obtain ⟨⟨k, b, ⟨vk, vf, vn, vt⟩, a⟩, hX⟩ : ∃ x, hdT (ls.drop j) = x := ⟨_, rfl⟩
      have HA2 : Hid (R = if k = 4 then .ok l (ls.drop (j + 1)) else .bad a 7) := Lib.hid (by rw [HA.out, hX]; rfl)
      have HT := Lib.hid (k_take hr hj.i hX)
      clear ho hli hr hj HA hX
      go_wp2_with fail
      refine HT.out.mono ?_
      rintro e w3 ⟨rfl, hr3, ho3⟩
      have HO3 := Lib.hid ((HO.out.trans ho3).trans (OnlyR.of (g := g) (one_new w3 (tkO k b vk vf vn vt a))))
      have hs3 := ho3.size
      have hl3 := HL.out.byBlock fun b hb hlt => ho3.2 b hlt (by omega)
      have HL3 := Lib.hid (hl3.byBlock fun b' hb hlt => (one_new w3 (tkO k b vk vf vn vt a)).block b' hlt)
      obtain ⟨n0, n1, n2, n3, n4, n5, n6⟩ := tok_cells (heap_alloc_new w3 (tkO k b vk vf vn vt a))
      clear hr3 ho3 hl3 HT
      by_cases hk : k = 4
      · have HA3 := HA2.out
        rw [if_pos hk] at HA3
        have HA3 := Lib.hid HA3
        subst hk
        clear HA2
        go_wp2
        go_ret
        exact ResE.ok HO3.out HA3.out HL3.out
      · have b1 : (k == 4) = false := by simpa using hk
        have HA3 := HA2.out
        rw [if_neg hk] at HA3
        have HA3 := Lib.hid HA3
        clear HA2 hk
        go_wp2
        exact ⟨rfl, ResE.bad HO3.out HA3.out⟩
end
end Go.Proofs.YtkobfngnnblpeaaGreatDoor
namespace Go.Proofs.YtkobfngnnblpeaaGreatDoor
section
open Go.RowKit

/-- Where a rule is read: the reader, the rule's box, the names of its head. -/
structure KSt (W : World) (g x t base : Nat) (ls : List Tok) (i : Nat) (r : RuP) (hv : Value) : Prop where
  rd : RdK W g t ls i
  bx : BoxX W x r hv (.slice none 0 0)
  hd : OwnSt W base hv r.head
  gb : g < base
  xb : x < base
  tb : t < base
  gx : g ≠ x
  tx : t ≠ x
  sz : base ≤ W.heap.size
section
variable {W W' : World} {g x t base i i' : Nat} {ls : List Tok} {r : RuP} {hv : Value}
theorem KSt.call (h : KSt W g x t base ls i r hv) (hr : RdK W' g t ls i') (ho : OnlyR g W W') : KSt W' g x t base ls i' r hv := by
  have hg := h.gb
  exact ⟨hr, (ho.2 x h.bx.lt (Ne.symm h.gx)).trans h.bx, h.hd.byBlock fun k hk => ho.2 k (h.hd.lt k hk).2 (by have := (h.hd.lt k hk).1; omega), h.gb, h.xb, h.tb, h.gx, h.tx, Nat.le_trans h.sz ho.size⟩
theorem KSt.below (h : KSt W g x t base ls i r hv) (hb : Below W.heap.size W W') : KSt W' g x t base ls i r hv := h.call (h.rd.below hb) (OnlyR.of hb)
theorem KSt.setA (h : KSt W g x t base ls i r hv) (j : Nat) (v : Value) {r' : RuP} (hb : BoxX (W.setCell ⟨x, j, none⟩ v) x r' hv (.slice none 0 0)) (hh : r'.head = r.head) : KSt (W.setCell ⟨x, j, none⟩ v) g x t base ls i r' hv := by
  have hx := h.xb
  have hk : ∀ k, base ≤ k → (W.setCell ⟨x, j, none⟩ v).heap[k]? = W.heap[k]? := fun k hk => Below.heap_setCell W ⟨x, j, none⟩ v k (by show k ≠ x; omega)
  refine ⟨h.rd.new h.gx h.tx v, hb, ?_, h.gb, h.xb, h.tb, h.gx, h.tx, by rw [World.size_setCell]; exact h.sz⟩
  rw [hh]
  exact h.hd.byBlock fun k hk' => hk k (h.hd.lt k hk').1
theorem KSt.set3 (h : KSt W g x t base ls i r hv) (k : Int) : KSt (W.setCell ⟨x, 3, none⟩ (.int .i64 k)) g x t base ls i { r with ag := k } hv := h.setA 3 _ (heap_setCell_same W x 3 _ _ _ h.bx) rfl
theorem KSt.set4 (h : KSt W g x t base ls i r hv) (k : ByteArray) : KSt (W.setCell ⟨x, 4, none⟩ (.string k)) g x t base ls i { r with ofv := k } hv := h.setA 4 _ (heap_setCell_same W x 4 _ _ _ h.bx) rfl
theorem KSt.set5 (h : KSt W g x t base ls i r hv) (k : Int) : KSt (W.setCell ⟨x, 5, none⟩ (.int .i64 k)) g x t base ls i { r with lim := k } hv := h.setA 5 _ (heap_setCell_same W x 5 _ _ _ h.bx) rfl
/-- The head grows. -/
theorem KSt.head {W2 : World} {ss : List ByteArray} {hv' : Value} (h : KSt W g x t base ls i r hv) (hg : W.grownBy W2 hv.ownBlock) (ho : OwnSt W2 base hv' ss) :
    KSt (W2.setCell ⟨x, 2, none⟩ hv') g x t base ls i { r with head := ss } hv' ∧ OnlyX g x base W (W2.setCell ⟨x, 2, none⟩ hv') := by
  have hx := h.xb
  have hgb := h.gb
  have htb := h.tb
  have hsz := h.sz
  have hlow : ∀ k, k < base → W2.heap[k]? = W.heap[k]? := fun k hk => hg.block k (by omega) (fun e => by have := (h.hd.lt k e.symm).1; omega)
  have hset : ∀ k, k ≠ x → (W2.setCell ⟨x, 2, none⟩ hv').heap[k]? = W2.heap[k]? := fun k hk => Below.heap_setCell W2 ⟨x, 2, none⟩ hv' k hk
  have hz2 : W.heap.size ≤ W2.heap.size := hg.size
  have hr2 : RdK W2 g t ls i := h.rd.grown (base := base) hg (fun k hk => (h.hd.lt k hk).1) hgb htb
  refine ⟨⟨hr2.new h.gx h.tx hv', ?_, ho.byBlock fun k hk => hset k (by have := (ho.lt k hk).1; omega), hgb, hx, htb, h.gx, h.tx, by rw [World.size_setCell]; omega⟩, ?_, fun k hk _ hkg hkx => (hset k hkx).trans (hlow k hk)⟩
  · have h1 : BoxX W2 x r hv (.slice none 0 0) := (hlow x hx).trans h.bx
    exact heap_setCell_same W2 x 2 _ _ hv' h1
  · exact ((Below.refl 0 W).grown hg (Nat.zero_le _) (fun k _ => Nat.zero_le _)).setCell (p := ⟨x, 2, none⟩) (Nat.zero_le _) hv'
theorem KSt.boxGrown {W2 : World} (h : KSt W g x t base ls i r hv) (hg : W.grownBy W2 hv.ownBlock) : BoxX W2 x r hv (.slice none 0 0) := by
  have hx := h.xb
  have hsz := h.sz
  exact (hg.block x (by omega) (fun e => by have := (h.hd.lt x e.symm).1; omega)).trans h.bx
end
/-- What is read into the rule's box; or what is handed up. -/
def ResX {α : Type} (W : World) (g x t base : Nat) (ls : List Tok) (up : α → RuP) (p : PR α) (e : Ending) (W' : World) : Prop := OnlyX g x base W W' ∧ match p with
  | .ok a r => e = .returned (.tuple #[]) ∧ ∃ i hv, r = ls.drop i ∧ AtI ls i ∧ KSt W' g x t base ls i (up a) hv
  | .bad a y => e = faultE a y
section
variable {α : Type} {W W' : World} {g x t base i : Nat} {ls : List Tok} {up : α → RuP} {p : PR α} {a : α} {hv : Value}
theorem ResX.ok (ho : OnlyX g x base W W') (hp : p = .ok a (ls.drop i)) (hi : AtI ls i) (hk : KSt W' g x t base ls i (up a) hv) : ResX W g x t base ls up p (.returned (.tuple #[])) W' := by
  subst hp
  exact ⟨ho, rfl, i, hv, rfl, hi, hk⟩
theorem ResX.bad {a y : Int} (ho : OnlyX g x base W W') (hp : p = .bad a y) : ResX W g x t base ls up p (faultE a y) W' := by
  subst hp
  exact ⟨ho, rfl⟩
theorem ResX.cases {e : Ending} (h : ResX W g x t base ls up p e W') :
    (∃ a i hv, p = .ok a (ls.drop i) ∧ e = .returned (.tuple #[]) ∧ AtI ls i ∧ KSt W' g x t base ls i (up a) hv ∧ OnlyX g x base W W') ∨ ∃ a y, p = .bad a y ∧ e = faultE a y ∧ OnlyX g x base W W' := by
  obtain ⟨ho, h⟩ := h
  cases p with
  | ok a r =>
    obtain ⟨h1, i, hv, rfl, h3, h4⟩ := h
    exact .inl ⟨a, i, hv, rfl, h1, h3, h4, ho⟩
  | bad a y => exact .inr ⟨a, y, rfl, h, ho⟩
end
theorem aggP_of {ls : List Tok} {i : Nat} {k : Int} {x : Tok} (hX : hdT (ls.drop i) = x) : aggP k (ls.drop i) = if agT x = 0 ∨ (k = 3 ∧ agT x ≠ 1 ∧ agT x ≠ 2) then .bad x.a 7 else if agT x = 1 then .ok (1, ⟨#[]⟩) (ls.drop (i + 1)) else (nameP (ls.drop (i + 1))).bind fun nm r => .ok ((agT x : Int), nm) r := by
  unfold aggP
  rw [hX, List.tail_drop]
set_option maxRecDepth 100000 in
set_option maxHeartbeats 4000000 in
theorem k_agg {W : World} {g x t base i : Nat} {ls : List Tok} {r : RuP} {hv : Value} (h : KSt W g x t base ls i r hv) (hA : AtI ls i) (hof : r.ofv = ⟨#[]⟩) :
    Calls Tryz.prog 67 #[.pointer (some ⟨g, 0, none⟩), .pointer (some ⟨x, 0, none⟩)] W (ResX W g x t base ls (fun a : Int × ByteArray => { r with ag := a.1, ofv := a.2 }) (aggP r.k (ls.drop i))) := by
  obtain ⟨⟨k, b, ⟨vk, vf, vn, vt⟩, a⟩, hX⟩ : ∃ z, hdT (ls.drop i) = z := ⟨_, rfl⟩
  have HT := Lib.hid (k_take h.rd hA.i hX)
  have HP := aggP_of (k := r.k) hX
  have HAT := Lib.hid (k_aggT k b vk vf vn vt a)
  have hj4 := agT_le ⟨k, b, ⟨vk, vf, vn, vt⟩, a⟩
  have HIN : agT ⟨k, b, ⟨vk, vf, vn, vt⟩, a⟩ ≠ 0 → AtI ls (i + 1) := fun hn => key_of (agT_key hn).1 rfl hA hX
  have HIN := Lib.hid HIN
  have HG := Lib.hid hA.g
  have HS := Lib.hid h
  obtain ⟨R, hR⟩ : ∃ R, aggP r.k (ls.drop i) = R := ⟨_, rfl⟩
  rw [hR] at HP ⊢
  have HP := Lib.hid HP
  have HOF := Lib.hid hof
  generalize agT ⟨k, b, ⟨vk, vf, vn, vt⟩, a⟩ = jj at *
  obtain ⟨jI, hjI⟩ : ∃ jI : Int, (jj : Int) = jI := ⟨_, rfl⟩
  rw [hjI] at HAT HP
  have HP := Lib.hid HP.out
  clear h hX hA hR hof
  go_enter Tryz.func67, Tryz.ntmps67
  go_wp2_with fail
  refine HT.out.mono ?_
  rintro e w1 ⟨rfl, hr1, ho1⟩
  have hbb := one_new w1 (tkO k b vk vf vn vt a)
  have HK2 := Lib.hid ((HS.out.call hr1 ho1).below hbb)
  have HO2 := Lib.hid ((OnlyX.of (x := x) (base := base) ho1).trans (OnlyX.of (OnlyR.of (g := g) hbb)))
  have hh := heap_alloc_new w1 (tkO k b vk vf vn vt a)
  have HT2 := Lib.hid hh
  obtain ⟨n0, n1, n2, n3, n4, n5, n6⟩ := tok_cells hh
  have hsw := ho1.size
  clear hr1 ho1 hbb hh HT
  go_wp2_with fail
  refine (HAT.out _).mono ?_
  rintro e w3 ⟨rfl, hb3⟩
  have hk3 := HK2.out.below hb3
  have HK4 := Lib.hid (hk3.set3 jI)
  have HO4 := Lib.hid ((HO2.out.trans (OnlyX.of (OnlyR.of (g := g) hb3))).trans (OnlyX.set g x base 3 w3 (.int .i64 jI)))
  have hxw : x ≠ w1.heap.size := by have := HK2.out.xb; have := HS.out.sz; omega
  have ht3 := (hb3.block w1.heap.size (by simp)).trans HT2.out
  have ht4 := (Below.heap_setCell w3 ⟨x, 3, none⟩ (.int .i64 jI) w1.heap.size (Ne.symm hxw)).trans ht3
  obtain ⟨m0, m1, m2, m3, m4, m5, m6⟩ := tok_cells ht4
  obtain ⟨_, _, _, d3, _, _, _⟩ := hk3.bx.cell
  have f3 := hk3.bx.frozen 3
  obtain ⟨c0, _, _, c3, _, _, _⟩ := HK4.out.bx.cell
  clear hb3 hk3 ht3 ht4 n0 n1 n2 n3 n4 n5 n6 HAT HT2 HK2 HO2
  have hcases : jj = 0 ∨ jj = 1 ∨ jj = 2 ∨ jj = 3 ∨ jj = 4 := by omega
  rcases hcases with rfl | rfl | rfl | rfl | rfl
  · have e : jI = 0 := hjI.symm
    subst e
    have HPB : Hid (R = .bad a 7) := Lib.hid (by rw [HP.out, if_pos (Or.inl rfl)])
    clear HP
    go_wp2
    exact ⟨rfl, ResX.bad HO4.out HPB.out⟩
  all_goals (first | (have e : jI = 1 := hjI.symm; subst e) | (have e : jI = 2 := hjI.symm; subst e) | (have e : jI = 3 := hjI.symm; subst e) | (have e : jI = 4 := hjI.symm; subst e))
  all_goals by_cases hk : r.k = 3
  · have bk : (r.k == 3) = true := by simpa using hk
    have HI := Lib.hid (HIN.out (by decide))
    have HPE : Hid (R = .ok (1, ⟨#[]⟩) (ls.drop (i + 1))) := Lib.hid (by rw [HP.out, if_neg (by omega), if_pos rfl])
    clear HP
    go_wp2
    refine bodyPost_ret (results_none rfl _ _ _) rfl ?_
    exact ResX.ok HO4.out HPE.out HI.out (by rw [← HOF.out]; exact HK4.out)
  · have bk : (r.k == 3) = false := by simpa using hk
    have HI := Lib.hid (HIN.out (by decide))
    have HPE : Hid (R = .ok (1, ⟨#[]⟩) (ls.drop (i + 1))) := Lib.hid (by rw [HP.out, if_neg (by omega), if_pos rfl])
    clear HP
    go_wp2
    refine bodyPost_ret (results_none rfl _ _ _) rfl ?_
    exact ResX.ok HO4.out HPE.out HI.out (by rw [← HOF.out]; exact HK4.out)
  · have bk : (r.k == 3) = true := by simpa using hk
    have HI := Lib.hid (HIN.out (by decide))
    have HPN : Hid (R = (nameP (ls.drop (i + 1))).bind fun nm r => .ok ((2 : Int), nm) r) := Lib.hid (by rw [HP.out, if_neg (by omega), if_neg (by omega)])
    have HNM := Lib.hid (k_name HK4.out.rd HI.out)
    clear HP
    go_wp2_with fail
    refine HNM.out.mono ?_
    intro e w5 hres
    rcases ResP.cases HG.out hres with ⟨nm, v, j, hp, rfl, rfl, hj, hr5, ho5⟩ | ⟨a', y, hp, rfl, ho5⟩
    · have hk5 := HK4.out.call hr5 ho5
      have HK5 := Lib.hid (hk5.set4 nm)
      have HO5 := Lib.hid ((HO4.out.trans (OnlyX.of ho5)).trans (OnlyX.set g x base 4 w5 (.string nm)))
      have HPE : Hid (R = .ok ((2 : Int), nm) (ls.drop j)) := Lib.hid (by rw [HPN.out, bind_go hp])
      have HJ := Lib.hid hj
      obtain ⟨_, _, _, _, e4, _, _⟩ := hk5.bx.cell
      have g4 := hk5.bx.frozen 4
      clear hp hj hr5 ho5 hres HNM HPN hk5
      go_wp2
      refine bodyPost_ret (results_none rfl _ _ _) rfl ?_
      exact ResX.ok HO5.out HPE.out HJ.out HK5.out
    · have HO5 := Lib.hid (HO4.out.trans (OnlyX.of ho5))
      have HPE : Hid (R = .bad a' y) := Lib.hid (by rw [HPN.out, bind_bad hp])
      clear hp ho5 hres HNM HPN
      go_wp2
      exact ⟨rfl, ResX.bad HO5.out HPE.out⟩
  · have bk : (r.k == 3) = false := by simpa using hk
    have HI := Lib.hid (HIN.out (by decide))
    have HPN : Hid (R = (nameP (ls.drop (i + 1))).bind fun nm r => .ok ((2 : Int), nm) r) := Lib.hid (by rw [HP.out, if_neg (by omega), if_neg (by omega)])
    have HNM := Lib.hid (k_name HK4.out.rd HI.out)
    clear HP
    go_wp2_with fail
    refine HNM.out.mono ?_
    intro e w5 hres
    rcases ResP.cases HG.out hres with ⟨nm, v, j, hp, rfl, rfl, hj, hr5, ho5⟩ | ⟨a', y, hp, rfl, ho5⟩
    · have hk5 := HK4.out.call hr5 ho5
      have HK5 := Lib.hid (hk5.set4 nm)
      have HO5 := Lib.hid ((HO4.out.trans (OnlyX.of ho5)).trans (OnlyX.set g x base 4 w5 (.string nm)))
      have HPE : Hid (R = .ok ((2 : Int), nm) (ls.drop j)) := Lib.hid (by rw [HPN.out, bind_go hp])
      have HJ := Lib.hid hj
      obtain ⟨_, _, _, _, e4, _, _⟩ := hk5.bx.cell
      have g4 := hk5.bx.frozen 4
      clear hp hj hr5 ho5 hres HNM HPN hk5
      go_wp2
      refine bodyPost_ret (results_none rfl _ _ _) rfl ?_
      exact ResX.ok HO5.out HPE.out HJ.out HK5.out
    · have HO5 := Lib.hid (HO4.out.trans (OnlyX.of ho5))
      have HPE : Hid (R = .bad a' y) := Lib.hid (by rw [HPN.out, bind_bad hp])
      clear hp ho5 hres HNM HPN
      go_wp2
      exact ⟨rfl, ResX.bad HO5.out HPE.out⟩
  · have bk : (r.k == 3) = true := by simpa using hk
    have HI := Lib.hid (HIN.out (by decide))
    have HPB : Hid (R = .bad a 7) := Lib.hid (by rw [HP.out, if_pos (Or.inr ⟨hk, by decide, by decide⟩)])
    clear HP
    go_wp2
    exact ⟨rfl, ResX.bad HO4.out HPB.out⟩
  · have bk : (r.k == 3) = false := by simpa using hk
    have HI := Lib.hid (HIN.out (by decide))
    have HPN : Hid (R = (nameP (ls.drop (i + 1))).bind fun nm r => .ok ((3 : Int), nm) r) := Lib.hid (by rw [HP.out, if_neg (by omega), if_neg (by omega)])
    have HNM := Lib.hid (k_name HK4.out.rd HI.out)
    clear HP
    go_wp2_with fail
    refine HNM.out.mono ?_
    intro e w5 hres
    rcases ResP.cases HG.out hres with ⟨nm, v, j, hp, rfl, rfl, hj, hr5, ho5⟩ | ⟨a', y, hp, rfl, ho5⟩
    · have hk5 := HK4.out.call hr5 ho5
      have HK5 := Lib.hid (hk5.set4 nm)
      have HO5 := Lib.hid ((HO4.out.trans (OnlyX.of ho5)).trans (OnlyX.set g x base 4 w5 (.string nm)))
      have HPE : Hid (R = .ok ((3 : Int), nm) (ls.drop j)) := Lib.hid (by rw [HPN.out, bind_go hp])
      have HJ := Lib.hid hj
      obtain ⟨_, _, _, _, e4, _, _⟩ := hk5.bx.cell
      have g4 := hk5.bx.frozen 4
      clear hp hj hr5 ho5 hres HNM HPN hk5
      go_wp2
      refine bodyPost_ret (results_none rfl _ _ _) rfl ?_
      exact ResX.ok HO5.out HPE.out HJ.out HK5.out
    · have HO5 := Lib.hid (HO4.out.trans (OnlyX.of ho5))
      have HPE : Hid (R = .bad a' y) := Lib.hid (by rw [HPN.out, bind_bad hp])
      clear hp ho5 hres HNM HPN
      go_wp2
      exact ⟨rfl, ResX.bad HO5.out HPE.out⟩
  · have bk : (r.k == 3) = true := by simpa using hk
    have HI := Lib.hid (HIN.out (by decide))
    have HPB : Hid (R = .bad a 7) := Lib.hid (by rw [HP.out, if_pos (Or.inr ⟨hk, by decide, by decide⟩)])
    clear HP
    go_wp2
    exact ⟨rfl, ResX.bad HO4.out HPB.out⟩
  · have bk : (r.k == 3) = false := by simpa using hk
    have HI := Lib.hid (HIN.out (by decide))
    have HPN : Hid (R = (nameP (ls.drop (i + 1))).bind fun nm r => .ok ((4 : Int), nm) r) := Lib.hid (by rw [HP.out, if_neg (by omega), if_neg (by omega)])
    have HNM := Lib.hid (k_name HK4.out.rd HI.out)
    clear HP
    go_wp2_with fail
    refine HNM.out.mono ?_
    intro e w5 hres
    rcases ResP.cases HG.out hres with ⟨nm, v, j, hp, rfl, rfl, hj, hr5, ho5⟩ | ⟨a', y, hp, rfl, ho5⟩
    · have hk5 := HK4.out.call hr5 ho5
      have HK5 := Lib.hid (hk5.set4 nm)
      have HO5 := Lib.hid ((HO4.out.trans (OnlyX.of ho5)).trans (OnlyX.set g x base 4 w5 (.string nm)))
      have HPE : Hid (R = .ok ((4 : Int), nm) (ls.drop j)) := Lib.hid (by rw [HPN.out, bind_go hp])
      have HJ := Lib.hid hj
      obtain ⟨_, _, _, _, e4, _, _⟩ := hk5.bx.cell
      have g4 := hk5.bx.frozen 4
      clear hp hj hr5 ho5 hres HNM HPN hk5
      go_wp2
      refine bodyPost_ret (results_none rfl _ _ _) rfl ?_
      exact ResX.ok HO5.out HPE.out HJ.out HK5.out
    · have HO5 := Lib.hid (HO4.out.trans (OnlyX.of ho5))
      have HPE : Hid (R = .bad a' y) := Lib.hid (by rw [HPN.out, bind_bad hp])
      clear hp ho5 hres HNM HPN
      go_wp2
      exact ⟨rfl, ResX.bad HO5.out HPE.out⟩
end
end Go.Proofs.YtkobfngnnblpeaaGreatDoor
