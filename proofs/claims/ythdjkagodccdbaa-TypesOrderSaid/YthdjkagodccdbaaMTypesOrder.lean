/-
  TypesOrder's walk at any rule and views in memory.
  Condition: what lies in memory as a rule, and views, of any length.
  TypesOrder of verdererlaw14 answers true at every rule and views, and both read afterwards as they read before: literals that do not bind, in the opposite order, change no columns, if there is no error.
  No condition.
-/
import Derived.Deep.RegionLaw
import Derived.Test.YthdjkagodccdbaaM41
import Derived.Test.YthdjkagodccdbaaMTkm
import Derived.Test.YthdjkagodccdbaaMTo
namespace Go.Proofs.Ythdjkagodccdbaa
section
open Go.RowKit Go.Maps

theorem el_LmT : IsEl 25 46 LmG.cells 4 56 where
  under := Try.underlying25
  info := ⟨.agg #[.bool false, .string ⟨#[]⟩, .slice none 0 0, .int .i64 0], by kernel_rfl, rfl⟩
  pos := by omega
  len := fun _ => rfl
  one := fun x u hu => by
    simp only [LmG.cells, List.mem_cons, List.not_mem_nil, or_false] at hu
    rcases hu with rfl | rfl | rfl | rfl <;> rfl
  few := by omega
abbrev OwnLt (w : World) (base : Nat) (v : Value) (ls : List LmG) : Prop := OwnF 46 LmG.cells 4 w base v ls
theorem OwnLt.els {w : World} {base : Nat} {v : Value} {l : List LmG} (h : OwnLt w base v l) : ∃ A c, v = .slice A l.length c ∧ ElsAt LmG.cells 4 w A l := by
  rcases OwnF.slice el_LmT h with ⟨rfl, rfl⟩ | ⟨g, c, rfl, _, _, _, he⟩
  · exact ⟨none, 0, rfl, fun i x hi => by simp at hi⟩
  · exact ⟨_, c, rfl, he⟩
def scT (e : WS) : Sc := ⟨e.nm, e.cols⟩
theorem WeakS.below14 {w w' : World} {A : Option Addr} {es : List WS} (h : WeakS w A es) (hb : Below w.heap.size w w') : WeakS w' A es := fun i e he => by
  obtain ⟨⟨o1, o2, o3, o4⟩, a, ha, hlt, c0, c1⟩ := h i e he
  exact ⟨⟨o1, o2, o3, (o4.keep (Below.keepQ hb _)).imp (fun k _ hk => Nat.lt_of_lt_of_le hk hb.size)⟩, a, ha, Nat.lt_of_lt_of_le hlt hb.size, (hb.cell hlt).trans c0, (hb.cell (p := { block := (a.add (i * 2)).block, off := (a.add (i * 2)).off + 1 }) hlt).trans c1⟩
theorem WeakS.kinds14 {w : World} {A : Option Addr} {es : List WS} (h : WeakS w A es) (hall : ∀ e ∈ es, e.cols.length ≤ 60) :
    ScR w (fun k => k < w.heap.size) (es.map fun e => (e.nm, e.v)) (es.map scT) ∧ CellsQ w (fun k => k < w.heap.size) A (flatS (es.map fun e => (e.nm, e.v))) := by
  refine ⟨?_, ?_⟩
  · have h1 : ∀ e ∈ es, WS.Ok w e := by
      intro e he
      obtain ⟨i, hi⟩ := List.mem_iff_getElem?.1 he
      exact (h i e hi).1
    clear h
    induction es with
    | nil => trivial
    | cons e es ih =>
      obtain ⟨o1, o2, o3, o4⟩ := h1 e (by simp)
      have hl := hall e (by simp)
      exact ⟨rfl, ⟨(show e.cols.length ≤ 1000000 by omega), e.at', e.cap, rfl, o2, o3, o4⟩, ih (fun e he => hall e (by simp [he])) (fun e he => h1 e (by simp [he]))⟩
  · intro j u hj
    obtain ⟨q, hq⟩ : ∃ q, q = j / 2 := ⟨_, rfl⟩
    have hql : q < es.length := by
      have := (List.getElem?_eq_some_iff.1 hj).1
      rw [flatS_len, List.length_map] at this
      omega
    have he := List.getElem?_eq_getElem hql
    obtain ⟨_, a, ha, hb, k0, k1⟩ := h _ _ he
    obtain ⟨f0, f1⟩ := flatS_at (es.map fun e => (e.nm, e.v)) q _ (by rw [List.getElem?_map, he]; rfl)
    refine ⟨a, ha, ?_⟩
    rcases (show j = q * 2 ∨ j = q * 2 + 1 by omega) with e | e
    · subst e
      rw [f0] at hj
      injection hj with hj
      subst hj
      exact ⟨hb, k0⟩
    · subst e
      rw [f1] at hj
      injection hj with hj
      subst hj
      rw [← add_off a (q * 2) 1 (by omega)]
      exact ⟨hb, k1⟩
theorem filt_len (l : List LmG) (p q : LmG → Bool) (h : ∀ x, q x = !p x) : (l.filter p).length + (l.filter q).length ≤ l.length := by
  induction l with
  | nil => simp
  | cons x l ih =>
    cases hp : p x with
    | true =>
      have hq : q x = false := by rw [h, hp]; rfl
      rw [List.filter_cons_of_pos hp, List.filter_cons_of_neg (by rw [hq]; simp), List.length_cons, List.length_cons]
      omega
    | false =>
      have hq : q x = true := by rw [h, hp]; rfl
      rw [List.filter_cons_of_neg (by rw [hp]; simp), List.filter_cons_of_pos hq, List.length_cons, List.length_cons]
      omega
theorem turn_filter (body : List LmG) : ((body.map LmG.li).filter fun z => atomB z == true) = ((((body.filter fun x => atomB x.li == true) ++ (body.filter fun x => atomB x.li == false).reverse).map LmG.li).filter fun z => atomB z == true) := by
  rw [List.map_append, List.filter_append, List.filter_map, List.filter_map, List.filter_map]
  have h1 : (body.filter fun x => atomB x.li == true).filter ((fun z => atomB z == true) ∘ LmG.li) = body.filter fun x => atomB x.li == true := by
    rw [List.filter_filter]
    congr 1
    funext x
    show (atomB x.li == true && atomB x.li == true) = _
    rw [Bool.and_self]
  have h2 : ((body.filter fun x => atomB x.li == false).reverse).filter ((fun z => atomB z == true) ∘ LmG.li) = [] := by
    rw [List.filter_eq_nil_iff]
    intro x hx
    have := (List.mem_filter.1 (List.mem_reverse.1 hx)).2
    show ¬ (atomB x.li == true) = true
    intro h
    rw [beq_iff_eq] at this h
    rw [this] at h
    simp at h
  rw [h1, h2, List.map_nil, List.append_nil]
  rfl
theorem turn_mem (body : List LmG) (z : LiP) : z ∈ body.map LmG.li ↔ z ∈ ((body.filter fun x => atomB x.li == true) ++ (body.filter fun x => atomB x.li == false).reverse).map LmG.li := by
  rw [List.mem_map, List.mem_map]
  refine ⟨fun ⟨x, hx, e⟩ => ⟨x, ?_, e⟩, fun ⟨x, hx, e⟩ => ⟨x, ?_, e⟩⟩
  · rw [List.mem_append, List.mem_reverse, List.mem_filter, List.mem_filter]
    cases h : atomB x.li
    · exact .inr ⟨hx, rfl⟩
    · exact .inl ⟨hx, rfl⟩
  · rcases List.mem_append.1 hx with hx | hx
    · exact (List.mem_filter.1 hx).1
    · exact (List.mem_filter.1 (List.mem_reverse.1 hx)).1
/-- The new rule's box, its literals' list of its own. -/
structure YAt (w4 w : World) (k0 : Int) (nm : ByteArray) (hA : Option Addr) (hn hc : Nat) (ag : Int) (ofv : ByteArray) (lim : Int) (v : Value) (ys : List LmG) : Prop where
  box : w.heap[w4.heap.size]? = some (.cells #[.int .i64 k0, .string nm, .slice hA hn hc, .int .i64 ag, .string ofv, .int .i64 lim, v] 27 (0, 0))
  own : OwnLt w w4.heap.size v ys
  ne : v.ownBlock ≠ some w4.heap.size
  bel : Below w4.heap.size w4 w
theorem YAt.next {w4 wr w6 : World} {k0 : Int} {nm : ByteArray} {hA : Option Addr} {hn hc : Nat} {ag : Int} {ofv : ByteArray} {lim : Int} {v v' : Value} {ys : List LmG} {x : LmG} (h : YAt w4 wr k0 nm hA hn hc ag ofv lim v ys) (o : Obj)
    (hown : OwnLt w6 w4.heap.size v' (ys ++ [x])) (hb : Below w4.heap.size (wr.alloc o) w6) (hgrow : (wr.alloc o).grownBy w6 v.ownBlock) (hor : v'.ownBlock = v.ownBlock ∨ v'.ownBlock = some (wr.alloc o).heap.size) :
    w6.heap[w4.heap.size]? = some (.cells #[.int .i64 k0, .string nm, .slice hA hn hc, .int .i64 ag, .string ofv, .int .i64 lim, v] 27 (0, 0)) ∧ YAt w4 (w6.setCell ⟨w4.heap.size, 6, none⟩ v') k0 nm hA hn hc ag ofv lim v' (ys ++ [x]) := by
  have hl := (Array.getElem?_eq_some_iff.1 h.box).1
  have hz : (wr.alloc o).heap.size = wr.heap.size + 1 := World.size_alloc _ _
  have b6 : w6.heap[w4.heap.size]? = some (.cells #[.int .i64 k0, .string nm, .slice hA hn hc, .int .i64 ag, .string ofv, .int .i64 lim, v] 27 (0, 0)) := (hgrow.block _ (by omega) (fun e => h.ne e.symm)).trans ((Below.heap_alloc wr o _ hl).trans h.box)
  have hne : v'.ownBlock ≠ some w4.heap.size := by
    rcases hor with e | e
    · rw [e]; exact h.ne
    · rw [e, hz]; intro e2; have := Option.some.inj e2; omega
  refine ⟨b6, heap_setCell_same w6 w4.heap.size 6 _ _ _ b6, hown.byBlock fun k hk => Below.heap_setCell w6 ⟨w4.heap.size, 6, none⟩ v' k (fun e => hne (by rw [hk, e])), hne, ?_⟩
  exact ((h.bel.trans ((one_new wr o).mono h.bel.size)).trans hb).setCell (p := ⟨w4.heap.size, 6, none⟩) (Nat.le_refl _) v'

set_option maxRecDepth 100000 in
set_option maxHeartbeats 16000000 in
theorem typesOrder_all (kn : ∀ W : World, Calls Try.prog 6 #[] W fun e w' => e = .returned (.bool true) ∧ Below W.heap.size W w') (r : RuG) (A : Option Addr) (es : List WS) (c : Nat) (w : World) (hr : r.Ok w) (hlg : r.Lng) (hns : ∀ x ∈ r.body, x.s.size ≤ maxLen) (hl : es.length ≤ maxLen) (hx : WeakS w A es) (hnm : ∀ e ∈ es, e.nm.size ≤ maxLen) :
    Calls Try.prog 4 #[.agg r.cells, .slice A es.length c] w fun e w' => e = .returned (.bool true) ∧ Below w.heap.size w w' := by
  have KN := Lib.hid kn
  clear kn
  obtain ⟨k0, nm, hA, hc, head, ag, ofv, lim, bA, bc, body⟩ := r
  have hon := one_new w (.cells #[.int .i64 k0, .string nm, .slice hA head.length hc, .int .i64 ag, .string ofv, .int .i64 lim, .slice bA body.length bc] 27)
  have HFW := Lib.hid (r_fewG (⟨k0, nm, hA, hc, head, ag, ofv, lim, bA, bc, body⟩ : RuG) _ (hr.below hon) hlg)
  have HFV : Hid (∀ W, Below w.heap.size w W → Calls Try.prog 14 #[.slice A es.length c] W fun e w' => FewG (es.length ≤ 20 ∧ ∀ e ∈ es, e.cols.length ≤ 60) W e w') := Lib.hid fun W hW => lw_few14 A es c W hl (hx.below14 hW)
  have HV : Hid (∀ (W : World) (R : RuG) (Q : Nat → Prop) (g : Nat), Below w.heap.size w W → R.Ok W → SmlT R → SetIs W Q g KL8 → (es.length ≤ 20 ∧ ∀ e ∈ es, e.cols.length ≤ 60) → Calls Try.prog 16 #[.agg R.cells, .pointer (some ⟨g, 0, none⟩), .slice A es.length c] W (TypIs W (varsZ KL8 (es.map scT) R.pl))) := Lib.hid fun W R Q g hW hR hS hs hfew => by
    obtain ⟨h1, h2⟩ := (hx.below14 hW).kinds14 hfew.2
    have h3 := p_Vars R g (fun k => k < W.heap.size) KL8 (es.map scT) A _ c W hR hS (by obtain ⟨v, a, b, d⟩ := hs; exact ⟨v, a, World.block_lt_of_cell? W _ a, d.imp (fun k hk _ => hk)⟩) KL8_few h1 h2 (by rw [List.length_map]; omega) (fun x hx => by obtain ⟨e, he, rfl⟩ := List.mem_map.1 hx; exact hnm e he)
    rwa [List.length_map] at h3
  have HSM : Hid (RuG.few (⟨k0, nm, hA, hc, head, ag, ofv, lim, bA, bc, body⟩ : RuG) → SmlT (⟨k0, nm, hA, hc, head, ag, ofv, lim, bA, bc, body⟩ : RuG)) := Lib.hid fun hf => ⟨by have := hf.1; omega, hlg.2.2.2.2.1, hlg.2.2.2.1, by have := hf.2.1; omega, fun x hx => ⟨by have := hf.2.2 x hx; omega, hns x hx, (hlg.2.2.2.2.2 x hx).2⟩⟩
  have HOK : Hid (∀ W, Below w.heap.size w W → RuG.Ok W (⟨k0, nm, hA, hc, head, ag, ofv, lim, bA, bc, body⟩ : RuG)) := Lib.hid fun W hW => hr.below hW
  obtain ⟨few2, hfw2⟩ : ∃ f : Prop, (es.length ≤ 20 ∧ ∀ e ∈ es, e.cols.length ≤ 60) = f := ⟨_, rfl⟩
  rw [hfw2] at HFV
  simp only [hfw2] at HV
  obtain ⟨few1, hfw1⟩ : ∃ f : Prop, RuG.few (⟨k0, nm, hA, hc, head, ag, ofv, lim, bA, bc, body⟩ : RuG) = f := ⟨_, rfl⟩
  rw [hfw1] at HFW HSM
  show Calls Try.prog 4 #[.agg #[.int .i64 k0, .string nm, .slice hA head.length hc, .int .i64 ag, .string ofv, .int .i64 lim, .slice bA body.length bc], .slice A es.length c] w fun e w' => e = .returned (.bool true) ∧ Below w.heap.size w w'
  have HFW2 : Hid (Calls Try.prog 13 #[.agg #[.int .i64 k0, .string nm, .slice hA head.length hc, .int .i64 ag, .string ofv, .int .i64 lim, .slice bA body.length bc]] (w.alloc (.cells #[.int .i64 k0, .string nm, .slice hA head.length hc, .int .i64 ag, .string ofv, .int .i64 lim, .slice bA body.length bc] 27)) fun e w' => FewG few1 (w.alloc (.cells #[.int .i64 k0, .string nm, .slice hA head.length hc, .int .i64 ag, .string ofv, .int .i64 lim, .slice bA body.length bc] 27)) e w') := HFW
  obtain ⟨el, hel⟩ : ∃ el, es.length = el := ⟨_, rfl⟩
  have HV2 : Hid (∀ (W : World) (R : RuG) (Q : Nat → Prop) (g : Nat), Below w.heap.size w W → R.Ok W → SmlT R → SetIs W Q g KL8 → few2 → Calls Try.prog 16 #[.agg R.cells, .pointer (some ⟨g, 0, none⟩), .slice A el c] W (TypIs W (varsZ KL8 (es.map scT) R.pl))) := by rw [← hel]; exact HV
  obtain ⟨bl, hbl⟩ : ∃ bl, body.length = bl := ⟨_, rfl⟩
  obtain ⟨hn, hhn⟩ : ∃ hn, head.length = hn := ⟨_, rfl⟩
  obtain ⟨U, hU⟩ : ∃ U, es.map scT = U := ⟨_, rfl⟩
  rw [hU] at HV2
  have hlb := hlg.2.1
  have HBL := Lib.hid hbl
  have HHN := Lib.hid hhn
  have hon2 := Lib.hid hon
  simp only at hlb
  unfold maxLen at hlb
  rw [hbl, hhn] at HFW2 hon2
  rw [hel] at HFV ⊢
  rw [hbl, hhn]
  rw [hbl] at hlb
  have hbx := heap_alloc_new w (.cells #[.int .i64 k0, .string nm, .slice hA hn hc, .int .i64 ag, .string ofv, .int .i64 lim, .slice bA bl bc] 27)
  have hz0 : (w.alloc (.cells #[.int .i64 k0, .string nm, .slice hA hn hc, .int .i64 ag, .string ofv, .int .i64 lim, .slice bA bl bc] 27)).heap.size = w.heap.size + 1 := World.size_alloc _ _
  obtain ⟨n0, n1, n2, n3, n4, n5, n6⟩ := box7g_of hbx
  have HBX := Lib.hid hbx
  have HZ0 := Lib.hid hz0
  clear hr hlg hns hl hx hnm hon HV HFW hfw1 hfw2 hel hbl hhn hU hbx hz0
  go_enter Try.func4, Try.ntmps4
  go_wp2_with fail
  refine HFW2.out.mono ?_
  rintro e w1 ⟨q1, rfl, hq1, hb1⟩
  have HQ1 := Lib.hid hq1
  have HB1 := Lib.hid (hon2.out.trans (hb1.mono hon2.out.size))
  have HS : Hid (∀ W : World, Below w1.heap.size w1 W → W.heap[w.heap.size]? = some (.cells #[.int .i64 k0, .string nm, .slice hA hn hc, .int .i64 ag, .string ofv, .int .i64 lim, .slice bA bl bc] 27 (0, 0))) := Lib.hid fun W hW => ((hb1.trans (hW.mono hb1.size)).block w.heap.size (by rw [HZ0.out]; omega)).trans HBX.out
  clear hb1 hq1 HFW2 n0 n1 n2 n3 n4 n5 n6
  cases q1 with
  | false =>
    go_wp2_with fail
    refine (KN.out _).mono ?_
    rintro e w2 ⟨rfl, hb2⟩
    have HB2 := Lib.hid (HB1.out.trans (hb2.mono HB1.out.size))
    clear hb2
    go_wp2
    go_ret
    exact ⟨rfl, HB2.out⟩
  | true =>
    have HSL := Lib.hid (HSM.out (HQ1.out rfl))
    go_wp2_with fail
    refine (HFV.out w1 HB1.out).mono ?_
    rintro e w2 ⟨q2, rfl, hq2, hb2⟩
    have HQ2 := Lib.hid hq2
    have HB2 := Lib.hid (HB1.out.trans (hb2.mono HB1.out.size))
    have HB12 := Lib.hid hb2
    clear hb2 hq2
    cases q2 with
    | false =>
      go_wp2_with fail
      refine (KN.out _).mono ?_
      rintro e w3 ⟨rfl, hb3⟩
      have HB3 := Lib.hid (HB2.out.trans (hb3.mono HB2.out.size))
      clear hb3
      go_wp2
      go_ret
      exact ⟨rfl, HB3.out⟩
    | true =>
      have HFEW := Lib.hid (HQ2.out rfl)
      go_wp2_with fail
      refine (l_kinds w2).mono ?_
      rintro e w3 ⟨v3, rfl, hk3, hb3⟩
      have HNW := Lib.hid (s_new (Behind w2) v3 KL8 w3 hk3)
      have HB3 := Lib.hid (HB2.out.trans (hb3.mono HB2.out.size))
      have HB13 := Lib.hid (HB12.out.trans (hb3.mono HB12.out.size))
      clear hk3 hb3
      go_wp2_with fail
      refine HNW.out.mono ?_
      rintro e w4 ⟨hb4, ⟨_, g, rfl, hs4⟩ | ⟨hno, _⟩⟩
      case inr => exact absurd KL8_fault hno
      have HS4 := Lib.hid hs4
      have HB4 := Lib.hid (HB3.out.trans (hb4.mono HB3.out.size))
      have HB14 := Lib.hid (HB13.out.trans (hb4.mono HB13.out.size))
      have HX4 := Lib.hid (HS.out w4 HB14.out)
      have hwl : w.heap.size < w4.heap.size := (Array.getElem?_eq_some_iff.1 HX4.out).1
      clear hs4 hb4
      obtain ⟨n0, n1, n2, n3, n4, n5, n6⟩ := box7g_of HX4.out
      have HY0 : Hid (YAt w4 (w4.alloc (.cells #[.int .i64 k0, .string nm, .slice hA hn hc, .int .i64 ag, .string ofv, .int .i64 lim, .slice none 0 0] 27)) k0 nm hA hn hc ag ofv lim (.slice none 0 0) []) := Lib.hid ⟨World.alloc_heap_new w4 _, OwnF.nil _ _, by simp [Value.ownBlock], one_new _ _⟩
      go_wp2
      clear n0 n1 n2 n3 n4 n5 n6
      go_loopw [8] (fun i wr => ∃ (k : Nat) (ys : List LmG) (yA : Option Addr) (yc : Nat), i = .int .i64 k ∧ k ≤ bl ∧ Hid (ys = (body.take k).filter fun x => atomB x.li == true) ∧ Hid (YAt w4 wr k0 nm hA hn hc ag ofv lim (.slice yA ys.length yc) ys)) (fun i _ => bl - (intOf i).toNat)
      case atStart => exact ⟨0, [], none, 0, rfl, Nat.zero_le _, Lib.hid rfl, HY0⟩
      case round =>
        obtain ⟨k, ys, yA, yc, rfl, hk, HYS, HY⟩ := hrel
        have hb4r := HY.out.bel
        have hok := HOK.out wr (HB4.out.trans (hb4r.mono HB4.out.size))
        have hbx2 := (hb4r.block w.heap.size hwl).trans HX4.out
        have hbl2 : w.heap.size < wr.heap.size := (Array.getElem?_eq_some_iff.1 hbx2).1
        have HBX2 := Lib.hid hbx2
        obtain ⟨n0, n1, n2, n3, n4, n5, n6⟩ := box7g_of hbx2
        obtain ⟨m0, m1, m2, m3, m4, m5, m6⟩ := box7g_of HY.out.box
        obtain ⟨yl, hyl⟩ : ∃ yl, ys.length = yl := ⟨_, rfl⟩
        have HYL := Lib.hid hyl
        rw [hyl] at m6 HY
        have hyb : yl ≤ k := by
          rw [← hyl, HYS.out]
          exact Nat.le_trans (List.length_filter_le _ _) (List.length_take_le _ _)
        have q3 : ys.length ≤ 1000000 := by have := HSL.out.2.2.2.1; have h9 := HBL.out; simp only at this; omega
        by_cases hlt : k < bl
        · obtain ⟨x, hxk⟩ : ∃ x, body[k]? = some x := ⟨_, List.getElem?_eq_getElem (by rw [HBL.out]; exact hlt)⟩
          obtain ⟨ad, rfl, a0, a1, a2, a3⟩ := els_L hok.2.1 hxk
          have HTK : Hid ((body.take (k + 1)).filter (fun x => atomB x.li == true) = ys ++ ([x].filter fun x => atomB x.li == true)) := Lib.hid (by rw [HYS.out, List.take_add_one, hxk, Option.toList_some, List.filter_append])
          obtain ⟨xn, xs, xA, xc, xa, xo⟩ := x
          simp only at a0 a1 a2 a3
          obtain ⟨xl, hxl⟩ : ∃ xl, xa.length = xl := ⟨_, rfl⟩
          have HXL := Lib.hid hxl
          rw [hxl] at a2
          have hyl8 : (ys ++ [(⟨xn, xs, xA, xc, xa, xo⟩ : LmG)]).length = yl + 1 := by rw [List.length_append, hyl]; rfl
          clear hok hxk hxl hb4r
          by_cases ho : xo = 0
          · have bo : (xo == 0) = true := by simpa using ho
            have HO := Lib.hid ho
            clear ho
            cases xn with
            | false =>
              have HT2 : Hid ((body.take (k + 1)).filter (fun x => atomB x.li == true) = ys ++ [(⟨false, xs, xA, xc, xa, xo⟩ : LmG)]) := Lib.hid (by rw [HTK.out, List.filter_cons_of_pos (by unfold atomB; simp [HO.out])]; rfl)
              clear hyl
              have hzL : (wr.alloc (.cells #[.bool false, .string xs, .slice xA xl xc, .int .i64 xo] 46)).heap.size = wr.heap.size + 1 := World.size_alloc _ _
              have honL := one_new wr (.cells #[.bool false, .string xs, .slice xA xl xc, .int .i64 xo] 46)
              have hq := HY.out.own.alloc (.cells #[.bool false, .string xs, .slice xA xl xc, .int .i64 xo] 46)
              have q2 := lit_F LmG.cells wr (⟨false, xs, xA, xc, xa, xo⟩ : LmG) #[.bool false, .string xs, .slice xA xl xc, .int .i64 xo] 46 (by rw [← HXL.out])
              have q4 : w4.heap.size ≤ (wr.alloc (.cells #[.bool false, .string xs, .slice xA xl xc, .int .i64 xo] 46)).heap.size := by have := HY.out.bel.size; omega
              have HNX := Lib.hid (fun (A8 : Option Addr) (c8 : Nat) (w6 : World) => HY.out.next (v' := .slice A8 (yl + 1) c8) (x := ⟨false, xs, xA, xc, xa, xo⟩) (w6 := w6) (.cells #[.bool false, .string xs, .slice xA xl xc, .int .i64 xo] 46))
              obtain ⟨f0, f1, f2, f3, f4, f5, f6⟩ := box7g_of ((honL.block w4.heap.size (Array.getElem?_eq_some_iff.1 HY.out.box).1).trans HY.out.box)
              obtain ⟨e0, e1, e2, e3, e4, e5, e6⟩ := box7g_of ((honL.block w.heap.size hbl2).trans hbx2)
              clear honL hzL hbx2
              go_wp2
              go_region_law
                ((refine step_append_F el_LmT _ (by rfl) _ _ (by rfl) w4.heap.size (.slice yA yl yc) ys (⟨false, xs, xA, xc, xa, xo⟩ : LmG) (by rfl) (by exact hq) ⟨wr.heap.size, 0, none⟩ _ (by rfl) (by exact q2) q3 (by exact q4) ?_; intro v' w6 hown' hb6 hgrow hor; obtain ⟨A8, c8, hv8⟩ := hown'.shape; rw [hyl8] at hv8; subst hv8; have hN := HNX.out A8 c8 w6 hown' (show Below w4.heap.size (wr.alloc (.cells #[.bool false, .string xs, .slice xA xl xc, .int .i64 xo] 46)) w6 from ⟨hb6.os, hb6.tape, hb6.output, hb6.size, hb6.block⟩) ⟨hgrow.os, hgrow.tape, hgrow.output, hgrow.size, hgrow.block⟩ hor; have HN := Lib.hid hN.2; obtain ⟨p0, p1, p2, p3, p4, p5, p6⟩ := box7g_of hN.1; have pf := frozen_of_row _ w4.heap.size 6 _ _ hN.1; clear hN hb6 hgrow hor hown'))
              all_goals
                go_wp2
                go_roundw
                case rel => exact ⟨k + 1, ys ++ [⟨false, xs, xA, xc, xa, xo⟩], A8, c8, by go_num, by omega, Lib.hid HT2.out.symm, by rw [hyl8]; exact HN⟩
                case measure => simp [intOf]; omega
            | true =>
              have HT2 : Hid ((body.take (k + 1)).filter (fun x => atomB x.li == true) = ys) := Lib.hid (by rw [HTK.out, List.filter_cons_of_neg (by unfold atomB; simp), List.filter_nil, List.append_nil])
              clear hbx2
              go_wp2
              go_roundw
              case rel => exact ⟨k + 1, ys, yA, yc, by go_num, by omega, Lib.hid HT2.out.symm, by rw [HYL.out]; exact HY⟩
              case measure => simp [intOf]; omega
          · have bo : (xo == 0) = false := by simpa using ho
            have HT2 : Hid ((body.take (k + 1)).filter (fun x => atomB x.li == true) = ys) := Lib.hid (by rw [HTK.out, List.filter_cons_of_neg (by unfold atomB; simp [ho]), List.filter_nil, List.append_nil])
            clear ho hbx2
            go_wp2
            go_roundw
            case rel => exact ⟨k + 1, ys, yA, yc, by go_num, by omega, Lib.hid HT2.out.symm, by rw [HYL.out]; exact HY⟩
            case measure => simp [intOf]; omega
        · have hall : ys = body.filter fun x => atomB x.li == true := by
            have := HYS.out
            rwa [List.take_of_length_le (by rw [HBL.out]; omega)] at this
          have HALL := Lib.hid hall
          have HSL9 := HSL.out
          clear hall hok hb4r
          go_wp2
          go_loopw [9] (fun i wr => ∃ (z : Int) (k : Nat) (ys : List LmG) (yA : Option Addr) (yc : Nat), i = .int .i64 z ∧ z = (k : Int) ∧ k ≤ bl ∧ Hid (ys = (body.filter fun x => atomB x.li == true) ++ ((body.drop k).filter fun x => atomB x.li == false).reverse) ∧ Hid (YAt w4 wr k0 nm hA hn hc ag ofv lim (.slice yA ys.length yc) ys)) (fun i _ => (intOf i).toNat)
          case atStart => exact ⟨_, bl, ys, yA, yc, rfl, rfl, Nat.le_refl _, Lib.hid (by rw [HALL.out, List.drop_eq_nil_of_le (by rw [HBL.out]; omega)]; simp), by rw [HYL.out]; exact HY⟩
          case round =>
            clear n0 n1 n2 n3 n4 n5 n6 m0 m1 m2 m3 m4 m5 m6 q3 hyl hyb
            obtain ⟨wo, hwo⟩ : ∃ wo, wo = wr := ⟨_, rfl⟩
            clear hwo
            obtain ⟨z, k2, ys, yA, yc, rfl, hz, hk2, HYS, HY⟩ := hrel
            have hb4r := HY.out.bel
            have hok := HOK.out wr (HB4.out.trans (hb4r.mono HB4.out.size))
            have hbx2 := (hb4r.block w.heap.size hwl).trans HX4.out
            have hbl2 : w.heap.size < wr.heap.size := (Array.getElem?_eq_some_iff.1 hbx2).1
            have HBX2 := Lib.hid hbx2
            obtain ⟨n0, n1, n2, n3, n4, n5, n6⟩ := box7g_of hbx2
            obtain ⟨m0, m1, m2, m3, m4, m5, m6⟩ := box7g_of HY.out.box
            obtain ⟨yl, hyl⟩ : ∃ yl, ys.length = yl := ⟨_, rfl⟩
            have HYL := Lib.hid hyl
            rw [hyl] at m6 HY
            have hys2 : ys.length ≤ body.length + body.length := by
              rw [HYS.out, List.length_append, List.length_reverse]
              have h1 := List.length_filter_le (fun x : LmG => atomB x.li == true) body
              have h2 := List.length_filter_le (fun x : LmG => atomB x.li == false) (body.drop k2)
              have h3 : (body.drop k2).length ≤ body.length := by rw [List.length_drop]; omega
              omega
            have q3 : ys.length ≤ 1000000 := by have := HSL9.2.2.2.1; simp only at this; omega
            rcases Nat.eq_zero_or_pos k2 with h0 | hpos
            · subst h0
              have hz0 : z = 0 := hz
              have HYF : Hid (ys = (body.filter fun x => atomB x.li == true) ++ (body.filter fun x => atomB x.li == false).reverse) := HYS
              subst hz0
              clear hb4r hok hyl hys2 q3 hz
              have HOKR := Lib.hid (HOK.out wr (HB4.out.trans (HY.out.bel.mono HB4.out.size)))
              have HBWR := Lib.hid (HB4.out.trans (HY.out.bel.mono HB4.out.size))
              have HSR := Lib.hid ((HS4.out.keep (fun q hq hl => (HY.out.bel.block q hl))))
              have hmem : ∀ x, x ∈ ys → x ∈ body := fun x hx => by
                rw [HYF.out] at hx
                rcases List.mem_append.1 hx with hx | hx
                · exact (List.mem_filter.1 hx).1
                · exact (List.mem_filter.1 (List.mem_reverse.1 hx)).1
              have HSB : SmlB ys := ⟨by rw [HYF.out]; have h1 := HSL9.2.2.2.1; have h2 := filt_len body (fun x => atomB x.li == true) (fun x => atomB x.li == false) (fun x => by cases atomB x.li <;> rfl); rw [List.length_append, List.length_reverse]; simp only at h1; omega, fun x hx => HSL9.2.2.2.2 x (hmem x hx)⟩
              have hpure := varsZ_turn KL8 U (RuG.pl (⟨k0, nm, hA, hc, head, ag, ofv, lim, bA, bc, body⟩ : RuG)) (RuG.pl (⟨k0, nm, hA, hc, head, ag, ofv, lim, yA, yc, ys⟩ : RuG)) (by simp only; rw [HYF.out]; exact turn_filter body) (fun z => by simp only; rw [HYF.out]; exact turn_mem body z)
              have HPU := Lib.hid hpure
              have HVX : Hid (Calls Try.prog 16 #[.agg #[.int .i64 k0, .string nm, .slice hA hn hc, .int .i64 ag, .string ofv, .int .i64 lim, .slice bA bl bc], .pointer (some ⟨g, 0, none⟩), .slice A el c] wr (TypIs wr (varsZ KL8 U (RuG.pl (⟨k0, nm, hA, hc, head, ag, ofv, lim, bA, bc, body⟩ : RuG))))) := Lib.hid (by rw [← HHN.out, ← HBL.out]; exact HV2.out wr (⟨k0, nm, hA, hc, head, ag, ofv, lim, bA, bc, body⟩ : RuG) _ g HBWR.out HOKR.out HSL9 HSR.out HFEW.out)
              have HVY : Hid (∀ W, Below wr.heap.size wr W → Calls Try.prog 16 #[.agg #[.int .i64 k0, .string nm, .slice hA hn hc, .int .i64 ag, .string ofv, .int .i64 lim, .slice yA yl yc], .pointer (some ⟨g, 0, none⟩), .slice A el c] W (TypIs W (varsZ KL8 U (RuG.pl (⟨k0, nm, hA, hc, head, ag, ofv, lim, yA, yc, ys⟩ : RuG))))) := Lib.hid fun W hW => by
                have hels : ElsAt LmG.cells 4 W yA ys := by
                  obtain ⟨A9, c9, e9, h9⟩ := OwnLt.els (HY.out.own.below hW)
                  injection e9 with e9 _ _
                  rw [e9]
                  exact h9
                have hok2 := HOKR.out.below hW
                rw [← HHN.out, ← HYL.out]
                exact HV2.out W ⟨k0, nm, hA, hc, head, ag, ofv, lim, yA, yc, ys⟩ _ g (HBWR.out.trans (hW.mono HBWR.out.size)) ⟨hok2.1, hels, fun x hx => hok2.2.2 x (hmem x hx)⟩ ⟨HSL9.1, HSL9.2.1, HSL9.2.2.1, HSB⟩ (HSR.out.below hW) HFEW.out
              have HYX := Lib.hid HY.out.box
              clear hpure hmem
              generalize varsZ KL8 U (RuG.pl (⟨k0, nm, hA, hc, head, ag, ofv, lim, bA, bc, body⟩ : RuG)) = RX at *
              generalize varsZ KL8 U (RuG.pl (⟨k0, nm, hA, hc, head, ag, ofv, lim, yA, yc, ys⟩ : RuG)) = RY at *
              obtain ⟨X1, X2, X3⟩ := RX
              obtain ⟨Y1, Y2, Y3⟩ := RY
              go_wp2_with fail
              refine HVX.out.mono ?_
              rintro e w8 ⟨v8, rfl, hv8, hb8⟩
              have HV8 := Lib.hid hv8
              obtain ⟨_, A8, c8, hva8, _⟩ := hv8
              simp only at hva8
              subst hva8
              have HB8 := Lib.hid hb8
              clear hb8 m0 m1 m2 m3 m4 m5 m6
              obtain ⟨m0, m1, m2, m3, m4, m5, m6⟩ := box7g_of ((HB8.out.block w4.heap.size (Array.getElem?_eq_some_iff.1 HYX.out).1).trans HYX.out)
              go_wp2_with fail
              refine (HVY.out w8 HB8.out).mono ?_
              rintro e w9 ⟨v9, rfl, hv9, hb9⟩
              have HV9 := Lib.hid hv9
              obtain ⟨_, A9, c9, hva9, _⟩ := hv9
              simp only at hva9
              subst hva9
              have HV89 := Lib.hid (HV8.out.below hb9)
              have HB9 := Lib.hid (HBWR.out.trans ((HB8.out.trans (hb9.mono HB8.out.size)).mono HBWR.out.size))
              have hyx : Y1 = X1 := HPU.out.2.symm
              subst hyx
              have HSA := Lib.hid (r_same14 _ _ _ _ _ w9 HV89.out HV9.out)
              clear hb9 m0 m1 m2 m3 m4 m5 m6 n0 n1 n2 n3 n4 n5 n6
              by_cases hx3 : X3 = 0
              · have hy3 : Y3 = 0 := HPU.out.1.1 hx3
                have t1 : (X3 == 0) = true := by simpa using hx3
                have t2 : (Y3 == 0) = true := by simpa using hy3
                clear hx3 hy3
                go_wp2_with fail
                refine HSA.out.mono ?_
                rintro e w10 ⟨rfl, hb10⟩
                have HB10 := Lib.hid (HB9.out.trans (hb10.mono HB9.out.size))
                clear hb10
                go_wp2_with fail
                refine (KN.out _).mono ?_
                rintro e w11 ⟨rfl, hb11⟩
                have HB11 := Lib.hid (HB10.out.trans (hb11.mono HB10.out.size))
                clear hb11
                go_wp2
                go_ret
                exact ⟨rfl, HB11.out⟩
              · have hy3 : ¬ Y3 = 0 := fun h => hx3 (HPU.out.1.2 h)
                have t1 : (X3 == 0) = false := by simpa using hx3
                have t2 : (Y3 == 0) = false := by simpa using hy3
                clear hx3 hy3
                go_wp2_with fail
                refine HSA.out.mono ?_
                rintro e w10 ⟨rfl, hb10⟩
                have HB10 := Lib.hid (HB9.out.trans (hb10.mono HB9.out.size))
                clear hb10
                go_wp2_with fail
                refine (KN.out _).mono ?_
                rintro e w11 ⟨rfl, hb11⟩
                have HB11 := Lib.hid (HB10.out.trans (hb11.mono HB10.out.size))
                clear hb11
                go_wp2
                go_ret
                exact ⟨rfl, HB11.out⟩
            · obtain ⟨kp, rfl⟩ : ∃ kp, k2 = kp + 1 := ⟨k2 - 1, by omega⟩
              have hz1 : z = (kp : Int) + 1 := by rw [hz]; rfl
              subst hz1
              have hbl9 : kp < bl := by omega
              have hlb9 : (kp : Int) < (bl : Int) := by omega
              have w1 : IntKind.i64.wrap ((kp : Int) + 1 - 1) = (kp : Int) := by
                have : (kp : Int) + 1 - 1 = kp := by omega
                rw [this, IntKind.wrap_i64]
                omega
              have i7 : IntKind.i64.wrap (kp : Int) = (kp : Int) := IntWalk.i64_in _ (by omega)
              have i2 : (kp : Int) + 1 ≤ (bl : Int) := by omega
              obtain ⟨x, hxk⟩ : ∃ x, body[kp]? = some x := ⟨_, List.getElem?_eq_getElem (by rw [HBL.out]; exact hbl9)⟩
              obtain ⟨ad, rfl, a0, a1, a2, a3⟩ := els_L hok.2.1 hxk
              have HTK : Hid ((body.filter fun x => atomB x.li == true) ++ ((body.drop kp).filter fun x => atomB x.li == false).reverse = ys ++ ([x].filter fun x => atomB x.li == false)) := Lib.hid (by
                rw [HYS.out, List.drop_eq_getElem_cons (List.getElem?_eq_some_iff.1 hxk).1, (List.getElem?_eq_some_iff.1 hxk).2, List.append_assoc]
                congr 1
                by_cases hb : (atomB x.li == false) = true
                · rw [List.filter_cons_of_pos (p := fun x : LmG => atomB x.li == false) hb, List.filter_cons_of_pos (p := fun x : LmG => atomB x.li == false) hb, List.reverse_cons, List.filter_nil]
                · rw [List.filter_cons_of_neg (p := fun x : LmG => atomB x.li == false) hb, List.filter_cons_of_neg (p := fun x : LmG => atomB x.li == false) hb, List.filter_nil, List.append_nil])
              obtain ⟨xn, xs, xA, xc, xa, xo⟩ := x
              simp only at a0 a1 a2 a3
              obtain ⟨xl, hxl⟩ : ∃ xl, xa.length = xl := ⟨_, rfl⟩
              have HXL := Lib.hid hxl
              rw [hxl] at a2
              have hyl8 : (ys ++ [(⟨xn, xs, xA, xc, xa, xo⟩ : LmG)]).length = yl + 1 := by rw [List.length_append, hyl]; rfl
              clear hok hxk hxl hb4r hz hpos
              by_cases ho : xo = 0
              · have bo : (xo != 0) = false := by simpa using ho
                have HO := Lib.hid ho
                clear ho
                cases xn with
                | true =>
                  have HT2 : Hid ((body.filter fun x => atomB x.li == true) ++ ((body.drop kp).filter fun x => atomB x.li == false).reverse = ys ++ [(⟨true, xs, xA, xc, xa, xo⟩ : LmG)]) := Lib.hid (by rw [HTK.out, List.filter_cons_of_pos (by unfold atomB; simp)]; rfl)
                  clear hyl
                  have hzL : (wr.alloc (.cells #[.bool true, .string xs, .slice xA xl xc, .int .i64 xo] 46)).heap.size = wr.heap.size + 1 := World.size_alloc _ _
                  have honL := one_new wr (.cells #[.bool true, .string xs, .slice xA xl xc, .int .i64 xo] 46)
                  have hq := HY.out.own.alloc (.cells #[.bool true, .string xs, .slice xA xl xc, .int .i64 xo] 46)
                  have q2 := lit_F LmG.cells wr (⟨true, xs, xA, xc, xa, xo⟩ : LmG) #[.bool true, .string xs, .slice xA xl xc, .int .i64 xo] 46 (by rw [← HXL.out])
                  have q4 : w4.heap.size ≤ (wr.alloc (.cells #[.bool true, .string xs, .slice xA xl xc, .int .i64 xo] 46)).heap.size := by have := HY.out.bel.size; omega
                  have HNX := Lib.hid (fun (A8 : Option Addr) (c8 : Nat) (w6 : World) => HY.out.next (v' := .slice A8 (yl + 1) c8) (x := ⟨true, xs, xA, xc, xa, xo⟩) (w6 := w6) (.cells #[.bool true, .string xs, .slice xA xl xc, .int .i64 xo] 46))
                  obtain ⟨f0, f1, f2, f3, f4, f5, f6⟩ := box7g_of ((honL.block w4.heap.size (Array.getElem?_eq_some_iff.1 HY.out.box).1).trans HY.out.box)
                  obtain ⟨e0, e1, e2, e3, e4, e5, e6⟩ := box7g_of ((honL.block w.heap.size hbl2).trans hbx2)
                  clear honL hzL hbx2
                  go_wp2
                  go_region_law
                    ((refine step_append_F el_LmT _ (by rfl) _ _ (by rfl) w4.heap.size (.slice yA yl yc) ys (⟨true, xs, xA, xc, xa, xo⟩ : LmG) (by rfl) (by exact hq) ⟨wr.heap.size, 0, none⟩ _ (by rfl) (by exact q2) q3 (by exact q4) ?_; intro v' w6 hown' hb6 hgrow hor; obtain ⟨A8, c8, hv8⟩ := hown'.shape; rw [hyl8] at hv8; subst hv8; have hN := HNX.out A8 c8 w6 hown' (show Below w4.heap.size (wr.alloc (.cells #[.bool true, .string xs, .slice xA xl xc, .int .i64 xo] 46)) w6 from ⟨hb6.os, hb6.tape, hb6.output, hb6.size, hb6.block⟩) ⟨hgrow.os, hgrow.tape, hgrow.output, hgrow.size, hgrow.block⟩ hor; have HN := Lib.hid hN.2; obtain ⟨p0, p1, p2, p3, p4, p5, p6⟩ := box7g_of hN.1; have pf := frozen_of_row _ w4.heap.size 6 _ _ hN.1; clear hN hb6 hgrow hor hown'))
                  all_goals
                    go_wp2
                    go_roundw
                    case rel => exact ⟨kp, kp, ys ++ [⟨true, xs, xA, xc, xa, xo⟩], A8, c8, by go_num, rfl, by omega, Lib.hid HT2.out.symm, by rw [hyl8]; exact HN⟩
                    case measure => simp [intOf]
                | false =>
                  have HT2 : Hid ((body.filter fun x => atomB x.li == true) ++ ((body.drop kp).filter fun x => atomB x.li == false).reverse = ys) := Lib.hid (by rw [HTK.out, List.filter_cons_of_neg (by unfold atomB; simp [HO.out]), List.filter_nil, List.append_nil])
                  clear hbx2
                  go_wp2
                  go_roundw
                  case rel => exact ⟨kp, kp, ys, yA, yc, by go_num, rfl, by omega, Lib.hid HT2.out.symm, by rw [HYL.out]; exact HY⟩
                  case measure => simp [intOf]
              · have bo : (xo != 0) = true := by simpa using ho
                have HT2 : Hid ((body.filter fun x => atomB x.li == true) ++ ((body.drop kp).filter fun x => atomB x.li == false).reverse = ys ++ [(⟨xn, xs, xA, xc, xa, xo⟩ : LmG)]) := Lib.hid (by rw [HTK.out, List.filter_cons_of_pos (by unfold atomB; simp [ho])]; rfl)
                clear ho hyl
                have hzL : (wr.alloc (.cells #[.bool xn, .string xs, .slice xA xl xc, .int .i64 xo] 46)).heap.size = wr.heap.size + 1 := World.size_alloc _ _
                have honL := one_new wr (.cells #[.bool xn, .string xs, .slice xA xl xc, .int .i64 xo] 46)
                have hq := HY.out.own.alloc (.cells #[.bool xn, .string xs, .slice xA xl xc, .int .i64 xo] 46)
                have q2 := lit_F LmG.cells wr (⟨xn, xs, xA, xc, xa, xo⟩ : LmG) #[.bool xn, .string xs, .slice xA xl xc, .int .i64 xo] 46 (by rw [← HXL.out])
                have q4 : w4.heap.size ≤ (wr.alloc (.cells #[.bool xn, .string xs, .slice xA xl xc, .int .i64 xo] 46)).heap.size := by have := HY.out.bel.size; omega
                have HNX := Lib.hid (fun (A8 : Option Addr) (c8 : Nat) (w6 : World) => HY.out.next (v' := .slice A8 (yl + 1) c8) (x := ⟨xn, xs, xA, xc, xa, xo⟩) (w6 := w6) (.cells #[.bool xn, .string xs, .slice xA xl xc, .int .i64 xo] 46))
                obtain ⟨f0, f1, f2, f3, f4, f5, f6⟩ := box7g_of ((honL.block w4.heap.size (Array.getElem?_eq_some_iff.1 HY.out.box).1).trans HY.out.box)
                obtain ⟨e0, e1, e2, e3, e4, e5, e6⟩ := box7g_of ((honL.block w.heap.size hbl2).trans hbx2)
                clear honL hzL hbx2
                go_wp2
                go_region_law
                  ((refine step_append_F el_LmT _ (by rfl) _ _ (by rfl) w4.heap.size (.slice yA yl yc) ys (⟨xn, xs, xA, xc, xa, xo⟩ : LmG) (by rfl) (by exact hq) ⟨wr.heap.size, 0, none⟩ _ (by rfl) (by exact q2) q3 (by exact q4) ?_; intro v' w6 hown' hb6 hgrow hor; obtain ⟨A8, c8, hv8⟩ := hown'.shape; rw [hyl8] at hv8; subst hv8; have hN := HNX.out A8 c8 w6 hown' (show Below w4.heap.size (wr.alloc (.cells #[.bool xn, .string xs, .slice xA xl xc, .int .i64 xo] 46)) w6 from ⟨hb6.os, hb6.tape, hb6.output, hb6.size, hb6.block⟩) ⟨hgrow.os, hgrow.tape, hgrow.output, hgrow.size, hgrow.block⟩ hor; have HN := Lib.hid hN.2; obtain ⟨p0, p1, p2, p3, p4, p5, p6⟩ := box7g_of hN.1; have pf := frozen_of_row _ w4.heap.size 6 _ _ hN.1; clear hN hb6 hgrow hor hown'))
                all_goals
                  go_wp2
                  go_roundw
                  case rel => exact ⟨kp, kp, ys ++ [⟨xn, xs, xA, xc, xa, xo⟩], A8, c8, by go_num, rfl, by omega, Lib.hid HT2.out.symm, by rw [hyl8]; exact HN⟩
                  case measure => simp [intOf]
end
end Go.Proofs.Ythdjkagodccdbaa
namespace Go.Proofs.Ythdjkagodccdbaa
section
open Go.ChangeShapes Go.WideShapes Go.ChangeAt Go.RowKit Go.Deep
theorem readable_RS (t : TypeId) (h : t ∈ [27, 22]) : Try.prog.readableRec t = true ∧ t < Try.prog.types.size := by
  simp only [List.mem_cons, List.not_mem_nil, or_false] at h
  rcases h with rfl | rfl
  · exact ⟨by kernel_rfl, of_decide_eq_true (by kernel_rfl)⟩
  · exact ⟨by kernel_rfl, of_decide_eq_true (by kernel_rfl)⟩

set_option maxRecDepth 100000 in
theorem typesOrder_lifted (os : Os) (started : os.Started) (H : Type) (enc : TypeId × Value → H) :
    ReturnsInHanded {} Try.checked os 4 .any (Rows.typesOrderSpec.pre6 enc Try.prog Try.f4 Rows.typesOrderRow.domain false) (Rows.typesOrderSpec.post enc Try.prog Try.f4 false true false false) := by
  refine returnsInHanded_of_change (C := Try.checked) Try.own started (by kernel_rfl) Try.func4
    (ChangeSpec.witness6 (enc := enc) (C := Try.checked) false ⟨#[], #[.agg #[.int .i64 0, .string ⟨#[]⟩, .slice none 0 0, .int .i64 0, .string ⟨#[]⟩, .int .i64 0, .slice none 0 0], .slice none 0 0], []⟩ 8 (by kernel_rfl) (by kernel_rfl) (by kernel_rfl) (by kernel_rfl)) ?_
  intro W base args ds gs before hval0 hW hcnd _
  have hval : ∀ (j : Nat) t v, Try.f4.params[j]? = some t → args[j]? = some v → Value.okWide Try.prog W .any base t v := hval0
  have hW' := hW
  obtain ⟨p, q, hA0, hV, rfl, hfz, hnd⟩ := hW
  have hAA : DataW.TrodAll enc Try.prog W 0 (fun _ => true) true Try.f4.params.toList args.toList ds p := hA0
  rw [Try.params4] at hAA hval
  obtain ⟨v0, v1, d0, d1, p0, p1, rfl, rfl, rfl, h0, h1⟩ := trodAll_two hAA
  obtain ⟨rfl, rfl⟩ := trodVars_none hV
  obtain ⟨r, rfl, hR, hL, hN⟩ := open_ruleN h0 (hval 0 27 v0 rfl rfl)
  obtain ⟨A, c, es, rfl, hl, -, -, hX, hM⟩ := open_scsN h1 (hval 1 22 v1 rfl rfl)
  refine (typesOrder_all lw_known14 r A es c W hR hL hN hl hX hM).mono fun e W' ⟨he, hb⟩ => ?_
  subst he
  exact ⟨_, rfl, law_post Try.laidOut rfl hW' (by rw [Try.params4]; intro t ht; exact readable_RS t (by simp at ht; rcases ht with rfl | rfl <;> simp)) (by kernel_rfl) Try.underlying4 rfl rfl rfl hb⟩

theorem typesOrder_holds : Rows.TypesOrderSaid :=
  OpenClaim.holds_of_wide 4 Try.f4 rfl rfl rfl rfl rfl rfl rfl ⟨rfl, rfl, rfl, rfl, rfl⟩ rfl rfl rfl rfl rfl (by kernel_rfl) Try.func4 (by kernel_rfl)
    (of_decide_eq_true (by kernel_rfl)) (by unfold Func.isWrapper; first | (rw [if_pos (by decide +kernel)]; kernel_rfl) | (rw [if_neg (by decide +kernel)]; exact ⟨rfl, rfl⟩))
    (fun os started H enc _ => typesOrder_lifted os started H enc)
end
end Go.Proofs.Ythdjkagodccdbaa
