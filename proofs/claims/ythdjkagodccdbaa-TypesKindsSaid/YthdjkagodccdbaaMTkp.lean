/-
  The document's columns of variables in memory: a box with the kinds, the views (none) and the columns; find, kind, comparison, columns.
  No condition but that names are no longer than they can be.
  One argument at a column, and one comparison: the document's side.
  No condition but that names are no longer than they can be.
-/
import Derived.Deep.RegionLaw
import Derived.Test.YthdjkagodccdbaaMTkm
namespace Go.Proofs.Ythdjkagodccdbaa
section
open Go.RowKit Go.Maps

theorem bindC_none : ∀ (L : List Co) (c : Co), findC L c.nm = none → bindC L c = L ++ [c]
  | [], _, _ => rfl
  | d :: L, c, h => by
    rw [findC_cons] at h
    by_cases hd : d.nm = c.nm
    · rw [if_pos hd] at h; cases h
    · rw [if_neg hd] at h
      rw [bindC, if_neg hd, bindC_none L c h]
      rfl
theorem bindC_at : ∀ (L : List Co) (c : Co) (k : Nat) (d : Co), L[k]? = some d → d.nm = c.nm → (∀ x ∈ L.take k, x.nm ≠ c.nm) → findC L c.nm = some d ∧ bindC L c = L.set k ⟨d.nm, d.k, d.nl && c.nl⟩
  | [], _, _, _, h, _, _ => by simp at h
  | x :: L, c, 0, d, h, hd, _ => by
    have e : x = d := by simpa using h
    subst e
    rw [findC_cons, if_pos hd, bindC, if_pos hd]
    exact ⟨rfl, rfl⟩
  | x :: L, c, k + 1, d, h, hd, hk => by
    have hx : x.nm ≠ c.nm := hk x (by simp)
    obtain ⟨h1, h2⟩ := bindC_at L c k d (by simpa using h) hd (fun y hy => hk y (by simp [hy]))
    rw [findC_cons, if_neg hx, bindC, if_neg hx, h2]
    exact ⟨h1, rfl⟩
theorem toList_inj14 {a b : ByteArray} (h : a.toList = b.toList) : a = b := toList_eqT.1 (beq_iff_eq.2 h)
theorem findC_all (L : List Co) (n : ByteArray) (h : ∀ x ∈ L, x.nm ≠ n) : findC L n = none := by
  unfold findC
  rw [List.find?_eq_none]
  intro x hx
  simpa using h x hx
theorem flatC_set : ∀ (L : List Co) (k : Nat) (d : Co) (b : Bool), L[k]? = some d → (flatC L).set (k * 3 + 2) (.bool b) = flatC (L.set k ⟨d.nm, d.k, b⟩)
  | [], _, _, _, h => by simp at h
  | x :: L, 0, d, b, h => by
    have e : x = d := by simpa using h
    subst e
    rfl
  | x :: L, k + 1, d, b, h => by
    have ih := flatC_set L k d b (by simpa using h)
    have e : (k + 1) * 3 + 2 = k * 3 + 2 + 1 + 1 + 1 := by omega
    rw [e, flatC_cons]
    show .string x.nm :: .int .i64 x.k :: .bool x.nl :: (flatC L).set (k * 3 + 2) (.bool b) = flatC (x :: L.set k ⟨d.nm, d.k, b⟩)
    rw [ih]
    rfl
/-- What find answers. -/
def FindIs (L : List Co) (n : ByteArray) (z : Int) : Prop := (z = -1 ∧ findC L n = none) ∨ ∃ (k : Nat) (d : Co), z = (k : Int) ∧ L[k]? = some d ∧ d.nm = n ∧ ∀ x ∈ L.take k, x.nm ≠ n

structure EnvAt (base : Nat) (W : World) (g : Nat) (kA : Option Addr) (kc : Nat) (ks : List RS) (S : List Sc) (lv : Value) (L : List Co) (m : Nat) : Prop where
  box : W.heap[g]? = some (.cells #[.slice kA S.length kc, .slice none 0 0, lv] 80 (0, 0))
  kls : ScR W (fun k => k < base) ks S
  kcl : CellsQ W (fun k => k < base) kA (flatS ks)
  own : OwnC W base lv L
  good : GoodC L m
  og : lv.ownBlock ≠ some g
  bg : base ≤ g
theorem EnvAt.gl {base : Nat} {W : World} {g : Nat} {kA : Option Addr} {kc : Nat} {ks : List RS} {S : List Sc} {lv : Value} {L : List Co} {m : Nat} (h : EnvAt base W g kA kc ks S lv L m) : g < W.heap.size := (Array.getElem?_eq_some_iff.1 h.box).1
theorem EnvAt.mt {base : Nat} {W : World} {g : Nat} {kA : Option Addr} {kc : Nat} {ks : List RS} {S : List Sc} {lv : Value} {L : List Co} {m : Nat} (h : EnvAt base W g kA kc ks S lv L m) : ∀ k, MutK g g lv k → base ≤ k ∧ k < W.heap.size := fun k hk => by
  rcases hk with rfl | rfl | hk
  · exact ⟨h.bg, h.gl⟩
  · exact ⟨h.bg, h.gl⟩
  · exact World.ownsRow.lt h.own k hk
theorem EnvAt.below {base : Nat} {W : World} {g : Nat} {kA : Option Addr} {kc : Nat} {ks : List RS} {S : List Sc} {lv : Value} {L : List Co} {m : Nat} (h : EnvAt base W g kA kc ks S lv L m) {W' : World} (hb : Below W.heap.size W W') : EnvAt base W' g kA kc ks S lv L m :=
  ⟨(hb.block g h.gl).trans h.box, h.kls.keep (Below.keepQ hb _), h.kcl.keep (Below.keepQ hb _), h.own.below hb, h.good, h.og, h.bg⟩
theorem EnvAt.mono {base : Nat} {W : World} {g : Nat} {kA : Option Addr} {kc : Nat} {ks : List RS} {S : List Sc} {lv : Value} {L : List Co} {m : Nat} (h : EnvAt base W g kA kc ks S lv L m) {m' : Nat} (hm : m ≤ m') : EnvAt base W g kA kc ks S lv L m' :=
  ⟨h.box, h.kls, h.kcl, h.own, ⟨h.good.nd, Nat.le_trans h.good.len hm, h.good.sz⟩, h.og, h.bg⟩
theorem EnvAt.slice {base : Nat} {W : World} {g : Nat} {kA : Option Addr} {kc : Nat} {ks : List RS} {S : List Sc} {lv : Value} {L : List Co} {m : Nat} (h : EnvAt base W g kA kc ks S lv L m) : ∃ A c, lv = .slice A L.length c ∧ CellsQ W (fun _ => True) A (flatC L) := by
  obtain ⟨A, c, e, _, _, hc⟩ := h.own.slice (fun _ => True) (fun _ _ => trivial)
  exact ⟨A, c, e, hc⟩

set_option maxRecDepth 100000 in
set_option maxHeartbeats 4000000 in
theorem e_find {base : Nat} {W : World} {g : Nat} {kA : Option Addr} {kc : Nat} {ks : List RS} {S : List Sc} {lv : Value} {L : List Co} {m : Nat} (h : EnvAt base W g kA kc ks S lv L m) (hm : m ≤ 900000) (n : ByteArray) :
    Calls Try.prog 35 #[.pointer (some ⟨g, 0, none⟩), .string n] W fun e W' => ∃ z, e = .returned (.int .i64 z) ∧ FindIs L n z ∧ W = W' := by
  obtain ⟨A, c, rfl, hc⟩ := h.slice
  obtain ⟨g0, g1, g2⟩ := three_cells h.box
  have hl := Nat.le_trans h.good.len hm
  have HC := Lib.hid hc
  obtain ⟨ll, hll⟩ : ∃ ll, L.length = ll := ⟨_, rfl⟩
  have HLL := Lib.hid hll
  rw [hll] at g2 hl
  clear h hc hll
  go_enter Try.func35, Try.ntmps35
  go_wp2
  go_loopw [5] (fun i wr => ∃ k : Nat, i = .int .i64 k ∧ k ≤ ll ∧ Hid (∀ x ∈ L.take k, x.nm ≠ n) ∧ W = wr) (fun i _ => ll - (intOf i).toNat)
  case atStart => exact ⟨0, rfl, Nat.zero_le _, Lib.hid (fun x hx => by simp at hx), rfl⟩
  case round =>
    obtain ⟨k, rfl, hk, HAL, rfl⟩ := hrel
    by_cases hlt : k < ll
    · obtain ⟨d, hd⟩ : ∃ d, L[k]? = some d := ⟨_, List.getElem?_eq_getElem (by rw [HLL.out]; exact hlt)⟩
      obtain ⟨a, rfl, -, a0, a1, a2⟩ := HC.out.col k d hd
      have HD := Lib.hid hd
      clear hd
      by_cases he : d.nm = n
      · have b1 : (d.nm.toList == n.toList) = true := by rw [he]; simp
        have HE := Lib.hid he
        clear he
        go_wp2
        go_ret
        exact ⟨_, rfl, .inr ⟨k, d, rfl, HD.out, HE.out, HAL.out⟩, rfl⟩
      · have b1 : (d.nm.toList == n.toList) = false := by
          rw [beq_eq_false_iff_ne]
          intro e
          exact he (toList_inj14 e)
        have HAL2 : Hid (∀ x ∈ L.take (k + 1), x.nm ≠ n) := Lib.hid fun x hx => by
          rw [List.take_add_one, HD.out] at hx
          rcases List.mem_append.1 hx with hx | hx
          · exact HAL.out x hx
          · have e : x = d := by simpa using hx
            rw [e]; exact he
        clear he
        go_wp2
        go_roundw
        case rel => exact ⟨k + 1, by go_num, by omega, HAL2, trivial⟩
        case measure => simp [intOf]; omega
    · have hall := HAL.out
      rw [List.take_of_length_le (by rw [HLL.out]; omega)] at hall
      have HF := Lib.hid (findC_all L n hall)
      clear hall
      go_wp2
      go_ret
      exact ⟨_, rfl, .inl ⟨rfl, HF.out⟩, rfl⟩

set_option maxRecDepth 100000 in
set_option maxHeartbeats 4000000 in
theorem e_kind {base : Nat} {W : World} {g : Nat} {kA : Option Addr} {kc : Nat} {ks : List RS} {S : List Sc} {lv : Value} {L : List Co} {m : Nat} (h : EnvAt base W g kA kc ks S lv L m) (hm : m ≤ 900000) (t : TmP) :
    Calls Try.prog 73 #[.pointer (some ⟨g, 0, none⟩), t.val] W fun e W' => e = .returned (.int .i64 (kindT L t)) ∧ Below W.heap.size W W' := by
  obtain ⟨n, a, ⟨vk, vf, vn, vt⟩⟩ := t
  have hon := one_new W (.cells #[.string n, .bool a, .int .i64 vk, .bool vf, .int .i64 vn, .string vt] 84)
  have h0 := heap_alloc_new W (.cells #[.string n, .bool a, .int .i64 vk, .bool vf, .int .i64 vn, .string vt] 84)
  have n0 := cell_of_row _ W.heap.size 0 _ _ (0, 0) h0
  have n1 := cell_of_row _ W.heap.size 1 _ _ (0, 0) h0
  have n2 := cell_of_row _ W.heap.size 2 _ _ (0, 0) h0
  have hk := h.below hon
  have HON := Lib.hid hon
  have HFD := Lib.hid (e_find hk hm n)
  obtain ⟨A, c, hlv, hc⟩ := hk.slice
  subst hlv
  obtain ⟨g0, g1, g2⟩ := three_cells hk.box
  have HC := Lib.hid hc
  obtain ⟨ll, hll⟩ : ∃ ll, L.length = ll := ⟨_, rfl⟩
  have HLL := Lib.hid hll
  have hl9 : ll ≤ 900000 := by rw [← hll]; exact Nat.le_trans h.good.len hm
  rw [hll] at g2
  have HD : Hid (kindT L ⟨n, a, ⟨vk, vf, vn, vt⟩⟩ = if a = true then 0 else if (n.toList == []) = true then vk else match findC L n with
    | none => 0
    | some d => d.k) := Lib.hid rfl
  generalize kindT L ⟨n, a, ⟨vk, vf, vn, vt⟩⟩ = q at *
  clear h hon h0 hk hc hll
  cases a with
  | true =>
    have hq := HD.out
    rw [if_pos rfl] at hq
    subst hq
    go_enter Try.func73, Try.ntmps73
    go_wp2
    go_ret
    exact ⟨rfl, HON.out⟩
  | false =>
    have hq := HD.out
    rw [if_neg Bool.false_ne_true] at hq
    rcases Bool.eq_false_or_eq_true (n.toList == []) with hs | hs
    · rw [if_pos hs] at hq
      have HQ := Lib.hid hq
      clear hq HD
      go_enter Try.func73, Try.ntmps73
      go_wp2
      go_ret
      exact ⟨by rw [HQ.out]; rfl, HON.out⟩
    · rw [if_neg (by rw [hs]; simp)] at hq
      have HQ := Lib.hid hq
      clear hq HD
      go_enter Try.func73, Try.ntmps73
      go_wp2_with fail
      refine HFD.out.mono ?_
      rintro e w1 ⟨z, rfl, hz, rfl⟩
      rcases hz with ⟨rfl, hf⟩ | ⟨k, d, rfl, hd, hn, hall⟩
      · have HF := Lib.hid hf
        clear hf
        go_wp2
        go_ret
        exact ⟨by rw [HQ.out, HF.out]; rfl, HON.out⟩
      · have hf := (bindC_at L d k d hd rfl (fun x hx => by rw [hn]; exact hall x hx)).1
        rw [hn] at hf
        obtain ⟨ad, rfl, -, a0, a1, a2⟩ := HC.out.col k d hd
        have hkl : k < ll := by have := (List.getElem?_eq_some_iff.1 hd).1; rw [HLL.out] at this; exact this
        have hki : (k : Int) < (ll : Int) := by omega
        have HF := Lib.hid hf
        obtain ⟨dn, dk, dl⟩ := d
        simp only at a0 a1 a2
        clear hd hn hall hf
        go_wp2
        go_ret
        exact ⟨by rw [HQ.out, HF.out]; rfl, HON.out⟩
end
end Go.Proofs.Ythdjkagodccdbaa
namespace Go.Proofs.Ythdjkagodccdbaa
section
open Go.RowKit Go.Maps

/-- What is left in memory. -/
def EArg (base : Nat) (W : World) (g : Nat) (kA : Option Addr) (kc : Nat) (ks : List RS) (S : List Sc) (lv : Value) (m : Nat) (R : Int × List Co) (e : Ending) (W' : World) : Prop := ∃ lv', e = .returned (.int .i64 R.1) ∧ EnvAt base W' g kA kc ks S lv' R.2 m ∧ OnlyK g g lv lv' W W'
theorem set_self14 {L : List Co} {k : Nat} {d : Co} (h : L[k]? = some d) : L.set k d = L := by
  refine List.ext_getElem? fun i => ?_
  rw [List.getElem?_set]
  split
  · next e =>
    subst e
    rw [h]
    split
    · rfl
    · next hlt => exact absurd (List.getElem?_eq_some_iff.1 h).1 hlt
  · rfl
theorem EArg.same {base : Nat} {W : World} {g : Nat} {kA : Option Addr} {kc : Nat} {ks : List RS} {S : List Sc} {lv : Value} {L : List Co} {m m' : Nat} (h : EnvAt base W g kA kc ks S lv L m) (hm : m ≤ m') {W' : World} (hb : Below W.heap.size W W') (z : Int) (R : Int × List Co) (hR : R = (z, L)) : EArg base W g kA kc ks S lv m' R (.returned (.int .i64 z)) W' := by
  subst hR
  exact ⟨lv, rfl, (h.below hb).mono hm, OnlyK.of_below hb⟩
theorem GoodC.set {L : List Co} {m : Nat} (h : GoodC L m) {k : Nat} {d : Co} (hd : L[k]? = some d) (b : Bool) : GoodC (L.set k ⟨d.nm, d.k, b⟩) m := by
  have hn : (L.set k ⟨d.nm, d.k, b⟩).map (·.nm) = L.map (·.nm) := by
    rw [List.map_set]
    refine List.ext_getElem? fun i => ?_
    rw [List.getElem?_set]
    split
    · next e =>
      subst e
      rw [List.getElem?_map, hd]
      split
      · rfl
      · next hlt => rw [List.length_map] at hlt; exact absurd (List.getElem?_eq_some_iff.1 hd).1 hlt
    · rfl
  refine ⟨by rw [hn]; exact h.nd, by rw [List.length_set]; exact h.len, fun x hx => ?_⟩
  have hx2 : x.nm ∈ L.map (·.nm) := by rw [← hn]; exact List.mem_map.2 ⟨x, hx, rfl⟩
  obtain ⟨y, hy, e⟩ := List.mem_map.1 hx2
  rw [← e]
  exact h.sz y hy
/-- A column is not null any more. -/
theorem EnvAt.flag {base : Nat} {W : World} {g : Nat} {kA : Option Addr} {kc : Nat} {ks : List RS} {S : List Sc} {b cp : Nat} {L : List Co} {m : Nat} (h : EnvAt base W g kA kc ks S (.slice (some ⟨b, 0, none⟩) L.length cp) L m) {k : Nat} {d : Co} (hd : L[k]? = some d) : EnvAt base (W.setCell ⟨b, k * 3 + 2, none⟩ (.bool false)) g kA kc ks S (.slice (some ⟨b, 0, none⟩) L.length cp) (L.set k ⟨d.nm, d.k, false⟩) m := by
  obtain ⟨h1, h2⟩ := World.ownsRow.stored h.own (k * 3 + 2) (.bool false)
  have hb : base ≤ b := (World.ownsRow.lt h.own b rfl).1
  have hg : b ≠ g := fun e => h.og (by rw [e]; rfl)
  rw [flatC_set L k d false hd] at h1
  have hq : KeepQ (fun k => k < base) W (W.setCell ⟨b, k * 3 + 2, none⟩ (.bool false)) := fun j hj _ => Below.heap_setCell W ⟨b, k * 3 + 2, none⟩ _ j (by have hj : j < base := hj; simp only; omega)
  refine ⟨(Below.heap_setCell W ⟨b, k * 3 + 2, none⟩ _ g (fun e => hg e.symm)).trans h.box, h.kls.keep hq, h.kcl.keep hq, ?_, h.good.set hd false, h.og, h.bg⟩
  unfold OwnC
  rw [List.length_set]
  exact h1
theorem OnlyK.row (g b i : Nat) (n c : Nat) (W : World) (v : Value) : OnlyK g g (.slice (some ⟨b, 0, none⟩) n c) (.slice (some ⟨b, 0, none⟩) n c) W (W.setCell ⟨b, i, none⟩ v) :=
  ⟨(Below.refl 0 W).setCell (p := ⟨b, i, none⟩) (Nat.zero_le _) v, fun k _ hn => Below.heap_setCell W ⟨b, i, none⟩ v k (fun e => hn (.inr (.inr (by rw [e]; rfl)))), fun _ _ h => h⟩
/-- One column more. -/
theorem step_append_C2 {ops : Array Oper} {o : Oper} {a : Act} {K : Act → World → Prop} {Q : Exit → Act → World → Prop} {E : Prop} (w : World) (hgd : o.guard = none) (s x : Operand)
    (ho : o.op = .call { callee := .builtin .append, args := #[s, x], argTypes := #[35, 35] })
    (base : Nat) (v : Value) (xs ys : List Co) (hs : a.eval s = v) (hown : OwnC w base v xs) (A : Option Addr) (m c : Nat) (hx : a.eval x = .slice A m c) (hm : m = ys.length) (R : Nat → Prop) (hr : CellsQ w R A (flatC ys))
    (hroom : xs.length + ys.length ≤ 3000000) (hbase : base ≤ w.heap.size)
    (h : ∀ v' w', OwnC w' base v' (xs ++ ys) → w.grownBy w' v.ownBlock → (v'.ownBlock = v.ownBlock ∨ v'.ownBlock = some w.heap.size) → K (a.put o.dst v') w') : if Region.wanted o (yielded ops a.tmps) = true then Oper.wp Try.prog o a w K Q else E := by
  have hw : Region.wanted o (yielded ops a.tmps) = true := by simp [Region.wanted, hgd]
  rw [if_pos hw]
  exact op_append_C w s x ho base v xs ys hs hown A m c hx hm R hr (flatC_one _) hroom hbase (fun v' w' h1 _ h3 h4 => h v' w' h1 h3 h4)
theorem EnvAt.more {base : Nat} {W w4 : World} {g : Nat} {kA : Option Addr} {kc : Nat} {ks : List RS} {S : List Sc} {lv v' : Value} {L : List Co} {m : Nat} (h : EnvAt base W g kA kc ks S lv L m) (o : Obj) (c : Co) (hown : OwnC w4 base v' (L ++ [c])) (hgr : (W.alloc o).grownBy w4 lv.ownBlock) (hor : v'.ownBlock = lv.ownBlock ∨ v'.ownBlock = some (W.alloc o).heap.size) (hG : GoodC (L ++ [c]) (m + 1)) :
    w4.heap[g]? = some (.cells #[.slice kA S.length kc, .slice none 0 0, lv] 80 (0, 0)) ∧ EnvAt base (w4.setCell ⟨g, 2, none⟩ v') g kA kc ks S v' (L ++ [c]) (m + 1) ∧ OnlyK g g lv v' W (w4.setCell ⟨g, 2, none⟩ v') := by
  have hl := h.gl
  have hz : (W.alloc o).heap.size = W.heap.size + 1 := World.size_alloc _ _
  have hb4 : ∀ k, k < W.heap.size → lv.ownBlock ≠ some k → w4.heap[k]? = W.heap[k]? := fun k hk hne => (hgr.block k (by omega) (fun e => hne e.symm)).trans (Below.heap_alloc W o k hk)
  have b4 := (hb4 g hl h.og).trans h.box
  have hog : v'.ownBlock ≠ some g := by
    rcases hor with e | e
    · rw [e]; exact h.og
    · rw [e, hz]; intro e2; have := Option.some.inj e2; omega
  have hbb := h.bg
  have hq : KeepQ (fun k => k < base) W (w4.setCell ⟨g, 2, none⟩ v') := fun j hj hjl => by
    have hj : j < base := hj
    exact (Below.heap_setCell w4 ⟨g, 2, none⟩ v' j (by simp only; omega)).trans (hb4 j hjl (fun e => by have := (World.ownsRow.lt h.own j e).1; omega))
  refine ⟨b4, ⟨heap_setCell_same w4 g 2 _ _ _ b4, h.kls.keep hq, h.kcl.keep hq, ?_, hG, hog, hbb⟩, ?_⟩
  · exact ownsRow_setCell_other hown (a := ⟨g, 2, none⟩) (fun e => hog e) v'
  · exact ((OnlyK.of_below (one_new W o)).trans (OnlyK.app hgr hor)).trans (OnlyK.setG g g 2 v' w4 v')

set_option maxRecDepth 100000 in
set_option maxHeartbeats 8000000 in
theorem e_arg {base : Nat} {W : World} {g : Nat} {kA : Option Addr} {kc : Nat} {ks : List RS} {S : List Sc} {lv : Value} {L : List Co} {m : Nat} (h : EnvAt base W g kA kc ks S lv L m) (hm : m ≤ 900000) (t : TmP) (ht : t.s.size ≤ maxLen) (c : Co) (bd : Bool) :
    Calls Try.prog 72 #[.pointer (some ⟨g, 0, none⟩), t.val, c.val, .bool bd] W (EArg base W g kA kc ks S lv (m + 1) (argT L bd t c)) := by
  obtain ⟨n, a, ⟨vk, vf, vn, vt⟩⟩ := t
  obtain ⟨cn, ck, cl⟩ := c
  simp only at ht
  have hon := two_new W (.cells #[.string n, .bool a, .int .i64 vk, .bool vf, .int .i64 vn, .string vt] 84) (.cells #[.string cn, .int .i64 ck, .bool cl] 49)
  have h0 := (Below.heap_alloc (W.alloc (.cells #[.string n, .bool a, .int .i64 vk, .bool vf, .int .i64 vn, .string vt] 84)) (.cells #[.string cn, .int .i64 ck, .bool cl] 49) W.heap.size (by simp)).trans (heap_alloc_new W (.cells #[.string n, .bool a, .int .i64 vk, .bool vf, .int .i64 vn, .string vt] 84))
  have h1 := heap_alloc_new (W.alloc (.cells #[.string n, .bool a, .int .i64 vk, .bool vf, .int .i64 vn, .string vt] 84)) (.cells #[.string cn, .int .i64 ck, .bool cl] 49)
  rw [show (W.alloc (.cells #[.string n, .bool a, .int .i64 vk, .bool vf, .int .i64 vn, .string vt] 84)).heap.size = W.heap.size + 1 from World.size_alloc _ _] at h1
  obtain ⟨w0, hw0⟩ : ∃ w0, (W.alloc (.cells #[.string n, .bool a, .int .i64 vk, .bool vf, .int .i64 vn, .string vt] 84)).alloc (.cells #[.string cn, .int .i64 ck, .bool cl] 49) = w0 := ⟨_, rfl⟩
  rw [hw0] at hon h0 h1
  have hsz : W.heap.size + 2 ≤ w0.heap.size := by have := (Array.getElem?_eq_some_iff.1 h1).1; omega
  have HC : Hid (∀ w, Below w0.heap.size w0 w → w.cell? ⟨W.heap.size, 0, none⟩ = some (.string n) ∧ w.cell? ⟨W.heap.size, 1, none⟩ = some (.bool a) ∧ w.cell? ⟨W.heap.size, 2, none⟩ = some (.int .i64 vk) ∧ w.cell? ⟨W.heap.size + 1, 1, none⟩ = some (.int .i64 ck) ∧ w.cell? ⟨W.heap.size + 1, 2, none⟩ = some (.bool cl)) := Lib.hid fun w hb => by
    have e0 := (hb.block W.heap.size (by omega)).trans h0
    have e1 := (hb.block (W.heap.size + 1) (by omega)).trans h1
    exact ⟨cell_of_row w _ 0 _ _ (0, 0) e0, cell_of_row w _ 1 _ _ (0, 0) e0, cell_of_row w _ 2 _ _ (0, 0) e0, cell_of_row w _ 1 _ _ (0, 0) e1, cell_of_row w _ 2 _ _ (0, 0) e1⟩
  have HE := Lib.hid h
  have HK := Lib.hid (h.below hon)
  have HON := Lib.hid hon
  have HT := Lib.hid ht
  have HR : Hid (argT L bd ⟨n, a, ⟨vk, vf, vn, vt⟩⟩ ⟨cn, ck, cl⟩ = if a = true then ((0 : Int), L) else if (n.toList == []) = true then (if vk = ck ∨ (vk = 0 ∧ cl = true) then (0, L) else (11, L)) else match findC L n with
    | none => (0, if bd = true then bindC L ⟨n, ck, cl⟩ else L)
    | some d => if d.k = ck then (0, if bd = true then bindC L ⟨n, ck, cl⟩ else L) else (11, L)) := Lib.hid (by unfold argT; rfl)
  have HB : Hid (GoodC (bindC L ⟨n, ck, cl⟩) (m + 1)) := Lib.hid (h.good.bind n ⟨cn, ck, cl⟩ ht)
  generalize argT L bd ⟨n, a, ⟨vk, vf, vn, vt⟩⟩ ⟨cn, ck, cl⟩ = R at *
  have HSAME : Hid (∀ (w' : World) (z : Int), Below W.heap.size W w' → R = (z, L) → EArg base W g kA kc ks S lv (m + 1) R (.returned (.int .i64 z)) w') := Lib.hid fun w' z hb hR => EArg.same h (Nat.le_succ m) hb z R hR
  obtain ⟨A, c, hlv, hc⟩ := (h.below hon).slice
  subst hlv
  have HCL := Lib.hid hc
  obtain ⟨g0, g1, g2⟩ := three_cells (h.below hon).box
  obtain ⟨ll, hll⟩ : ∃ ll, L.length = ll := ⟨_, rfl⟩
  have HLL := Lib.hid hll
  have hl9 : ll ≤ 900000 := by rw [← hll]; exact Nat.le_trans h.good.len hm
  have HFD := Lib.hid (e_find (h.below hon) hm n)
  have HW := Lib.hid hw0
  clear h hon h0 h1 ht hc hll
  show Calls Try.prog 72 #[.pointer (some ⟨g, 0, none⟩), .agg #[.string n, .bool a, .int .i64 vk, .bool vf, .int .i64 vn, .string vt], .agg #[.string cn, .int .i64 ck, .bool cl], .bool bd] W (EArg base W g kA kc ks S (.slice A L.length c) (m + 1) R)
  obtain ⟨c0, c1, c2, d1, d2⟩ := HC.out w0 (Below.refl _ _)
  clear hw0
  have hw0 := HW.out
  subst hw0
  clear HW
  go_enter Try.func72, Try.ntmps72
  cases a with
  | true =>
    have hR := HR.out
    rw [if_pos rfl] at hR
    have HF := Lib.hid (HSAME.out _ 0 HON.out hR)
    clear hR
    go_wp2
    go_ret
    exact HF.out
  | false =>
    have hR := HR.out
    rw [if_neg Bool.false_ne_true] at hR
    rcases Bool.eq_false_or_eq_true (n.toList == []) with hs | hs
    · rw [if_pos hs] at hR
      have HR1 := Lib.hid hR
      clear hR
      by_cases h1 : vk = ck
      · have b1 : (vk == ck) = true := by simpa using h1
        have HF := Lib.hid (HSAME.out _ 0 HON.out (HR1.out.trans (if_pos (.inl h1))))
        clear h1
        go_wp2
        go_ret
        exact HF.out
      · have b1 : (vk == ck) = false := by simpa using h1
        by_cases h2 : vk = 0
        · have b2 : (vk == 0) = true := by simpa using h2
          have HR2 := Lib.hid HR1.out
          have H1 := Lib.hid h1
          have H2 := Lib.hid h2
          clear h1 h2
          cases cl with
          | true =>
            have HF := Lib.hid (HSAME.out _ 0 HON.out (HR1.out.trans (if_pos (.inr ⟨H2.out, rfl⟩))))
            go_wp2
            go_ret
            exact HF.out
          | false =>
            have HF := Lib.hid (HSAME.out _ 11 HON.out (HR1.out.trans (if_neg (fun hh => by rcases hh with hh | hh; exact H1.out hh; simp at hh))))
            go_wp2
            go_ret
            exact HF.out
        · have b2 : (vk == 0) = false := by simpa using h2
          have HF := Lib.hid (HSAME.out _ 11 HON.out (HR1.out.trans (if_neg (fun hh => by rcases hh with hh | hh; exact h1 hh; exact h2 hh.1))))
          clear h1 h2
          go_wp2
          go_ret
          exact HF.out
    · rw [if_neg (by rw [hs]; simp)] at hR
      have HR1 := Lib.hid hR
      clear hR
      go_wp2_with fail
      refine HFD.out.mono ?_
      rintro e w1 ⟨z, rfl, hz, rfl⟩
      rcases hz with ⟨rfl, hf⟩ | ⟨k, d, rfl, hd, hn, hall⟩
      · have hR2 := HR1.out
        rw [hf] at hR2
        simp only at hR2
        have hbn := bindC_none L ⟨n, ck, cl⟩ hf
        cases bd with
        | false =>
          have HF := Lib.hid (HSAME.out _ 0 HON.out hR2)
          clear hR2 hf hbn
          go_wp2
          go_ret
          exact HF.out
        | true =>
          rw [if_pos rfl, hbn] at hR2
          have HR2 := Lib.hid hR2
          have hG := HB.out
          rw [hbn] at hG
          have HG := Lib.hid hG
          have honc := one_new ((W.alloc (.cells #[.string n, .bool false, .int .i64 vk, .bool vf, .int .i64 vn, .string vt] 84)).alloc (.cells #[.string cn, .int .i64 ck, .bool cl] 49)) (.cells #[.string n, .int .i64 ck, .bool cl] 49)
          have hzx : ((W.alloc (.cells #[.string n, .bool false, .int .i64 vk, .bool vf, .int .i64 vn, .string vt] 84)).alloc (.cells #[.string cn, .int .i64 ck, .bool cl] 49)).heap.size = W.heap.size + 1 + 1 := by rw [World.size_alloc, World.size_alloc]
          obtain ⟨x0, x1, x2, y1, y2⟩ := HC.out _ honc
          obtain ⟨z0, z1, z2⟩ := three_cells (HK.out.below honc).box
          have hownA := HK.out.own.alloc (.cells #[.string n, .int .i64 ck, .bool cl] 49)
          have hlit := c_lit1 ((W.alloc (.cells #[.string n, .bool false, .int .i64 vk, .bool vf, .int .i64 vn, .string vt] 84)).alloc (.cells #[.string cn, .int .i64 ck, .bool cl] 49)) ⟨n, ck, cl⟩
          rw [hzx] at hlit
          have hroom : L.length + [(⟨n, ck, cl⟩ : Co)].length ≤ 3000000 := by rw [HLL.out]; simp; omega
          have hbase : base ≤ (((W.alloc (.cells #[.string n, .bool false, .int .i64 vk, .bool vf, .int .i64 vn, .string vt] 84)).alloc (.cells #[.string cn, .int .i64 ck, .bool cl] 49)).alloc (.cells #[.string n, .int .i64 ck, .bool cl] 49)).heap.size := by have := HK.out.bg; have := HK.out.gl; rw [World.size_alloc]; omega
          have HMO := Lib.hid (fun (v' : Value) (w4 : World) (h1 : OwnC w4 base v' (L ++ [⟨n, ck, cl⟩])) => HK.out.more (v' := v') (w4 := w4) (.cells #[.string n, .int .i64 ck, .bool cl] 49) ⟨n, ck, cl⟩ h1)
          clear hR2 hf hbn hG honc
          go_wp2
          go_region_law
            ((refine step_append_C2 _ (by rfl) _ _ (by rfl) base (.slice A L.length c) L [⟨n, ck, cl⟩] (by rfl) (by exact hownA) (some ⟨W.heap.size + 1 + 1, 0, none⟩) _ _ (by rfl) rfl (fun _ => True) (by exact hlit) hroom (by exact hbase) ?_; intro v' w4 hown' hgr hor; have hM := HMO.out v' w4 hown' ⟨hgr.os, hgr.tape, hgr.output, hgr.size, hgr.block⟩ hor HG.out; obtain ⟨gg, cp, hv'⟩ := hown'.succ; subst hv'; obtain ⟨p0, p1, p2⟩ := three_cells hM.1; have pf := frozen_of_row _ g 2 _ _ hM.1; have HM := Lib.hid hM.2; clear hM hgr hor hown'))
          all_goals
            have HF : Hid (EArg base W g kA kc ks S (.slice A L.length c) (m + 1) R (.returned (.int .i64 0)) (w4.setCell ⟨g, 2, none⟩ (.slice (some ⟨gg, 0, none⟩) (L.length + 1) cp))) := Lib.hid (by rw [HR2.out]; exact ⟨_, rfl, HM.out.1, (OnlyK.of_below HON.out).trans HM.out.2⟩)
            go_wp2
            go_ret
            exact HF.out
      · have hfb := bindC_at L ⟨n, ck, cl⟩ k d hd hn hall
        simp only at hfb
        have hR2 := HR1.out
        rw [hfb.1] at hR2
        simp only at hR2
        rw [hfb.2] at hR2
        have HR2 := Lib.hid hR2
        have HD := Lib.hid hd
        obtain ⟨ad, rfl, -, a0, a1, a2⟩ := HCL.out.col k d hd
        have hkl : k < ll := by have := (List.getElem?_eq_some_iff.1 hd).1; rw [HLL.out] at this; exact this
        have hki : (k : Int) < (ll : Int) := by omega
        have hkp : (0 : Int) ≤ (k : Int) := by omega
        obtain ⟨dn, dk, dl⟩ := d
        simp only at a0 a1 a2
        rw [HLL.out] at g2
        clear hd hn hall hfb hR2
        by_cases hk : dk = ck
        · have HR3 := Lib.hid (HR2.out.trans (if_pos hk))
          have bk : (dk != ck) = false := by simpa using hk
          clear hk
          cases bd with
          | false =>
            have HF := Lib.hid (HSAME.out _ 0 HON.out.drew HR3.out)
            go_wp2
            go_region
            go_wp2
            go_ret
            exact HF.out
          | true =>
            cases cl with
            | true =>
              have hset : L.set k ⟨dn, dk, dl && true⟩ = L := by
                rw [Bool.and_true]
                exact set_self14 HD.out
              have HF := Lib.hid (HSAME.out _ 0 HON.out.drew (HR3.out.trans (by rw [if_pos rfl, hset])))
              clear hset
              go_wp2
              go_region
              go_wp2
              go_ret
              exact HF.out
            | false =>
              have hform : ∃ b, ad = ⟨b, 0, none⟩ := by
                rcases HK.out.own.2 with ⟨hv, _⟩ | ⟨b, cap, cur, hv, _⟩
                · simp at hv
                · injection hv with hv _ _
                  exact ⟨b, Option.some.inj hv⟩
              obtain ⟨b, rfl⟩ := hform
              have HFL := Lib.hid (((HK.out.below (Below.refl _ _).drew).flag (d := ⟨dn, dk, dl⟩) HD.out).mono (Nat.le_succ m))
              have HRW := Lib.hid (OnlyK.row g b (k * 3 + 2) L.length c ((W.alloc (.cells #[.string n, .bool false, .int .i64 vk, .bool vf, .int .i64 vn, .string vt] 84)).alloc (.cells #[.string cn, .int .i64 ck, .bool false] 49)).drew (.bool false))
              have bf := World.ownsRow.frozenAt HK.out.own (k * 3 + 2)
              have b0 := a0
              have b1' := a1
              have b2' := a2
              rw [add_zero_g] at b0 b1' b2'
              have e1 : R = (0, L.set k ⟨dn, dk, false⟩) := HR3.out.trans (by rw [if_pos rfl, Bool.and_false])
              have HE1 := Lib.hid e1
              clear e1
              have HF : Hid (EArg base W g kA kc ks S (.slice (some ⟨b, 0, none⟩) L.length c) (m + 1) R (.returned (.int .i64 0)) (((W.alloc (.cells #[.string n, .bool false, .int .i64 vk, .bool vf, .int .i64 vn, .string vt] 84)).alloc (.cells #[.string cn, .int .i64 ck, .bool false] 49)).drew.setCell ⟨b, k * 3 + 2, none⟩ (.bool false))) := Lib.hid (by rw [HE1.out]; exact ⟨_, rfl, HFL.out, (OnlyK.of_below HON.out.drew).trans HRW.out⟩)
              go_wp2
              go_region
              go_wp2
              go_ret
              exact HF.out
        · have HF := Lib.hid (HSAME.out _ 11 HON.out.drew (HR2.out.trans (if_neg hk)))
          have bk : (dk != ck) = true := by simpa using hk
          clear hk
          go_wp2
          go_region
          go_wp2
          go_ret
          exact HF.out
end
end Go.Proofs.Ythdjkagodccdbaa
