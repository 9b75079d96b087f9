/-
  A variable stands at a column once more: bind of package types.
  No condition but that names are no longer than they can be.
  One comparison; bind at any name; the program's side of one argument.
  No condition but that names are no longer than they can be.
-/
import Derived.Test.YthdjkagodccdbaaM37
namespace Go.Proofs.Ythdjkagodccdbaa
section
open Go.RowKit Go.Maps

theorem three_cells {W : World} {g : Nat} {a b c : Value} {T : TypeId} (h : W.heap[g]? = some (.cells #[a, b, c] T (0, 0))) : W.cell? ⟨g, 0, none⟩ = some a ∧ W.cell? ⟨g, 1, none⟩ = some b ∧ W.cell? ⟨g, 2, none⟩ = some c :=
  ⟨cell_of_row _ g 0 _ _ (0, 0) h, cell_of_row _ g 1 _ _ (0, 0) h, cell_of_row _ g 2 _ _ (0, 0) h⟩
set_option maxRecDepth 100000 in
set_option maxHeartbeats 4000000 in
theorem k_bind_hit {base : Nat} {W : World} {g s vb cb : Nat} {ov : Value} {S : List Sc} {ls : List RS} {U : List Sc} {L : List Co} {m : Nat} (h : KnowAt base W g s vb cb ov S ls U L m) (hm : m ≤ 900000) (n : ByteArray) (hn : n.size ≤ maxLen) (cn : ByteArray) (ck : Int) (cl : Bool) (dk : Int) (dl : Bool) (hd : findC L n = some ⟨n, dk, dl⟩) :
    Calls Try.prog 83 #[.pointer (some ⟨g, 0, none⟩), .string n, .agg #[.string cn, .int .i64 ck, .bool cl]] W fun e W' => e = .returned (.tuple #[]) ∧ ∃ ov', KnowAt base W' g s vb cb ov' S ls U (bindC L ⟨n, ck, cl⟩) (m + 1) ∧ OnlyK g cb ov ov' W W' := by
  cases dl with
  | true =>
    have hon := one_new W (.cells #[.string cn, .int .i64 ck, .bool cl] 49)
    have hk0 := h.below hon
    obtain ⟨k0, k1, k2, k3⟩ := cellK hk0
    have hlk := look_C2 hk0.cls n hn
    rw [hd] at hlk
    have HLK : (Instr.lookup 86 (.map (some cb)) (.string n) true).run Try.prog (W.alloc (.cells #[.string cn, .int .i64 ck, .bool cl] 49)) = .ok (.tuple #[.agg #[.string n, .int .i64 dk, .bool true], .bool true]) (W.alloc (.cells #[.string cn, .int .i64 ck, .bool cl] 49)) := hlk
    have hz : (W.alloc (.cells #[.string cn, .int .i64 ck, .bool cl] 49)).heap.size = W.heap.size + 1 := World.size_alloc _ _
    have hon2 := two_new W (.cells #[.string cn, .int .i64 ck, .bool cl] 49) (.cells #[.string n, .int .i64 dk, .bool cl] 49)
    have hk2 := h.below hon2
    have hx1 := heap_alloc_new (W.alloc (.cells #[.string cn, .int .i64 ck, .bool cl] 49)) (.cells #[.string n, .int .i64 dk, .bool cl] 49)
    rw [hz] at hx1
    obtain ⟨e0, e1, e2⟩ := three_cells hx1
    obtain ⟨j0, j1, j2, j3⟩ := cellK hk2
    have hlk2 := bind_lk L n ⟨cn, ck, cl⟩
    rw [hd] at hlk2
    obtain ⟨w7, hrun, hg7, hc7⟩ := put_C (W := ((W.alloc (.cells #[.string cn, .int .i64 ck, .bool cl] 49)).alloc (.cells #[.string n, .int .i64 dk, .bool cl] 49)).drew) hk2.cls n hn (by omega) ⟨n, dk, cl⟩ hlk2
    have hrun2 : (Instr.mapUpdate 86 (.map (some cb)) (.string n) (.agg #[.string n, .int .i64 dk, .bool cl])).run Try.prog ((W.alloc (.cells #[.string cn, .int .i64 ck, .bool cl] 49)).alloc (.cells #[.string n, .int .i64 dk, .bool cl] 49)).drew = .ok () w7 := hrun
    have HK := Lib.hid hk2
    have HG7 := Lib.hid hg7
    have HC7 := Lib.hid hc7
    have HGD := Lib.hid (h.good.bind n ⟨cn, ck, cl⟩ hn)
    have HNM : Hid ((bindC L ⟨n, ck, cl⟩).map (·.nm) = L.map (·.nm)) := Lib.hid (by rw [bindC_names]; simp only; rw [hd]; rfl)
    have HB2 := Lib.hid hon2
    clear h hon hk0 hlk hon2 hk2 hx1 hlk2 hrun hg7 hc7 hd hn
    go_enter Try.func83, Try.ntmps83
    go_wp2
    go_region
    go_wp2
    go_end0
    refine ⟨rfl, ov, (KnowAt.below HK.out (Below.drew (Below.refl _ _))).put HG7.out HC7.out HGD.out HNM.out, ?_⟩
    exact (OnlyK.of_below HB2.out.drew).trans (OnlyK.map HG7.out)
  | false =>
    have hon := one_new W (.cells #[.string cn, .int .i64 ck, .bool cl] 49)
    have hk0 := h.below hon
    obtain ⟨k0, k1, k2, k3⟩ := cellK hk0
    have hlk := look_C2 hk0.cls n hn
    rw [hd] at hlk
    have HLK : (Instr.lookup 86 (.map (some cb)) (.string n) true).run Try.prog (W.alloc (.cells #[.string cn, .int .i64 ck, .bool cl] 49)) = .ok (.tuple #[.agg #[.string n, .int .i64 dk, .bool false], .bool true]) (W.alloc (.cells #[.string cn, .int .i64 ck, .bool cl] 49)) := hlk
    have hz : (W.alloc (.cells #[.string cn, .int .i64 ck, .bool cl] 49)).heap.size = W.heap.size + 1 := World.size_alloc _ _
    have hon2 := two_new W (.cells #[.string cn, .int .i64 ck, .bool cl] 49) (.cells #[.string n, .int .i64 dk, .bool false] 49)
    have hk2 := h.below hon2
    have hx1 := heap_alloc_new (W.alloc (.cells #[.string cn, .int .i64 ck, .bool cl] 49)) (.cells #[.string n, .int .i64 dk, .bool false] 49)
    rw [hz] at hx1
    obtain ⟨e0, e1, e2⟩ := three_cells hx1
    obtain ⟨j0, j1, j2, j3⟩ := cellK hk2
    have hlk2 := bind_lk L n ⟨cn, ck, cl⟩
    rw [hd] at hlk2
    obtain ⟨w7, hrun, hg7, hc7⟩ := put_C (W := ((W.alloc (.cells #[.string cn, .int .i64 ck, .bool cl] 49)).alloc (.cells #[.string n, .int .i64 dk, .bool false] 49)).drew) hk2.cls n hn (by omega) ⟨n, dk, false⟩ hlk2
    have hrun2 : (Instr.mapUpdate 86 (.map (some cb)) (.string n) (.agg #[.string n, .int .i64 dk, .bool false])).run Try.prog ((W.alloc (.cells #[.string cn, .int .i64 ck, .bool cl] 49)).alloc (.cells #[.string n, .int .i64 dk, .bool false] 49)).drew = .ok () w7 := hrun
    have HK := Lib.hid hk2
    have HG7 := Lib.hid hg7
    have HC7 := Lib.hid hc7
    have HGD := Lib.hid (h.good.bind n ⟨cn, ck, cl⟩ hn)
    have HNM : Hid ((bindC L ⟨n, ck, cl⟩).map (·.nm) = L.map (·.nm)) := Lib.hid (by rw [bindC_names]; simp only; rw [hd]; rfl)
    have HB2 := Lib.hid hon2
    clear h hon hk0 hlk hon2 hk2 hx1 hlk2 hrun hg7 hc7 hd hn
    go_enter Try.func83, Try.ntmps83
    go_wp2
    go_region
    go_wp2
    go_end0
    refine ⟨rfl, ov, (KnowAt.below HK.out (Below.drew (Below.refl _ _))).put HG7.out HC7.out HGD.out HNM.out, ?_⟩
    exact (OnlyK.of_below HB2.out.drew).trans (OnlyK.map HG7.out)

set_option maxRecDepth 100000 in
set_option maxHeartbeats 8000000 in
theorem k_bind_new {base : Nat} {W : World} {g s vb cb : Nat} {ov : Value} {S : List Sc} {ls : List RS} {U : List Sc} {L : List Co} {m : Nat} (h : KnowAt base W g s vb cb ov S ls U L m) (hm : m ≤ 900000) (n : ByteArray) (hn : n.size ≤ maxLen) (cn : ByteArray) (ck : Int) (cl : Bool) (hd : findC L n = none) :
    Calls Try.prog 83 #[.pointer (some ⟨g, 0, none⟩), .string n, .agg #[.string cn, .int .i64 ck, .bool cl]] W fun e W' => e = .returned (.tuple #[]) ∧ ∃ ov', KnowAt base W' g s vb cb ov' S ls U (bindC L ⟨n, ck, cl⟩) (m + 1) ∧ OnlyK g cb ov ov' W W' := by
  have hon := one_new W (.cells #[.string cn, .int .i64 ck, .bool cl] 49)
  have hk0 := h.below hon
  obtain ⟨k0, k1, k2, k3⟩ := cellK hk0
  have hlk := look_C2 hk0.cls n hn
  rw [hd] at hlk
  have HLK : (Instr.lookup 86 (.map (some cb)) (.string n) true).run Try.prog (W.alloc (.cells #[.string cn, .int .i64 ck, .bool cl] 49)) = .ok (.tuple #[.agg #[.string ⟨#[]⟩, .int .i64 0, .bool false], .bool false]) (W.alloc (.cells #[.string cn, .int .i64 ck, .bool cl] 49)) := hlk
  have hz : (W.alloc (.cells #[.string cn, .int .i64 ck, .bool cl] 49)).heap.size = W.heap.size + 1 := World.size_alloc _ _
  have hx0 := (Below.heap_alloc (W.alloc (.cells #[.string cn, .int .i64 ck, .bool cl] 49)) (.cells #[.string ⟨#[]⟩, .int .i64 0, .bool false] 49) W.heap.size (by omega)).trans (heap_alloc_new W (.cells #[.string cn, .int .i64 ck, .bool cl] 49))
  have hx1 := heap_alloc_new (W.alloc (.cells #[.string cn, .int .i64 ck, .bool cl] 49)) (.cells #[.string ⟨#[]⟩, .int .i64 0, .bool false] 49)
  rw [hz] at hx1
  have hon2 := two_new W (.cells #[.string cn, .int .i64 ck, .bool cl] 49) (.cells #[.string ⟨#[]⟩, .int .i64 0, .bool false] 49)
  obtain ⟨w2, hw2⟩ : ∃ w2, (W.alloc (.cells #[.string cn, .int .i64 ck, .bool cl] 49)).alloc (.cells #[.string ⟨#[]⟩, .int .i64 0, .bool false] 49) = w2 := ⟨_, rfl⟩
  rw [hw2] at hx0 hx1 hon2
  have hz2 : w2.heap.size = W.heap.size + 2 := by rw [← hw2, World.size_alloc, hz]
  have hk2 := h.below hon2
  have hon3 := one_new w2 (.cells #[.string n] 9)
  have hk3 := hk2.below hon3
  have HSL : Hid (∃ A c, ov = .slice A (L.map (·.nm)).length c) := Lib.hid h.ord.shape
  have HL := Lib.hid (show L.length ≤ 900000 from Nat.le_trans h.good.len hm)
  have HW2 := Lib.hid hw2
  have HX0 := Lib.hid ((hon3.block W.heap.size (by omega)).trans hx0)
  have HX1 := Lib.hid ((hon3.block (W.heap.size + 1) (by omega)).trans hx1)
  have HZ2 := Lib.hid hz2
  have HON3 := Lib.hid (hon2.trans (hon3.mono (by omega)))
  have HK3 := Lib.hid hk3
  have HN := Lib.hid hn
  have HM := Lib.hid hm
  have HGD := Lib.hid (h.good.bind n ⟨cn, ck, cl⟩ hn)
  have HNM : Hid ((bindC L ⟨n, ck, cl⟩).map (·.nm) = L.map (·.nm) ++ [n]) := Lib.hid (by rw [bindC_names]; simp only; rw [hd]; rfl)
  have hlk2 := bind_lk L n ⟨cn, ck, cl⟩
  rw [hd] at hlk2
  have HLK2 := Lib.hid hlk2
  have HGL := Lib.hid h.gl
  have HW0 := Lib.hid (Nat.le_trans h.bg (Nat.le_of_lt h.gl))
  obtain ⟨j0, j1, j2, j3⟩ := cellK hk2
  obtain ⟨i0, i1, i2, i3⟩ := cellK hk3
  have ho3 := hk3.ord
  have hlc := lit_F strC w2 n #[.string n] 9 rfl
  rw [hz2] at hlc
  have HO3 := Lib.hid ho3
  have HLC := Lib.hid hlc
  have hroom : (L.map (·.nm)).length ≤ 1000000 := by rw [List.length_map]; have := HL.out; omega
  have hbase : base ≤ (w2.alloc (.cells #[.string n] 9)).heap.size := by have := HW0.out; have := hon3.size; omega
  have hgr : ∀ (v' : Value) (w4 : World), OwnSt w4 base v' (L.map (·.nm) ++ [n]) → (w2.alloc (.cells #[.string n] 9)).grownBy w4 ov.ownBlock → (v'.ownBlock = ov.ownBlock ∨ v'.ownBlock = some (w2.alloc (.cells #[.string n] 9)).heap.size) →
      (w4.cell? ⟨g, 3, none⟩ = some ov ∧ w4.frozen? ⟨g, 3, none⟩ = false) ∧
      ∃ w6, (w4.setCell ⟨g, 3, none⟩ v') = w6 ∧ w6.heap[W.heap.size]? = some (.cells #[.string cn, .int .i64 ck, .bool cl] 49 (0, 0)) ∧ w6.heap[W.heap.size + 1]? = some (.cells #[.string ⟨#[]⟩, .int .i64 0, .bool false] 49 (0, 0)) ∧
        ∃ w7, ((((w6.setCell ⟨W.heap.size + 1, 0, none⟩ (.string n)).setCell ⟨W.heap.size + 1, 1, none⟩ (.int .i64 ck)).setCell ⟨W.heap.size + 1, 2, none⟩ (.bool cl)).setCell ⟨W.heap.size + 1, 2, none⟩ (.bool cl)) = w7 ∧ w7.heap[W.heap.size + 1]? = some (.cells #[.string n, .int .i64 ck, .bool cl] 49 (0, 0)) ∧ w7.cell? ⟨g, 2, none⟩ = some (.map (some cb)) ∧
        ∃ w8, (Instr.mapUpdate 86 (.map (some cb)) (.string n) (.agg #[.string n, .int .i64 ck, .bool cl])).run Try.prog w7.drew = .ok () w8 ∧
          KnowAt base w8 g s vb cb v' S ls U (bindC L ⟨n, ck, cl⟩) (m + 1) ∧ OnlyK g cb ov v' W w8 := by
    intro v' w4 hown hgr hloc
    have hs3 : (w2.alloc (.cells #[.string n] 9)).heap.size = W.heap.size + 3 := by rw [World.size_alloc, hz2]
    rw [hs3] at hloc
    have hsz := hgr.size
    rw [hs3] at hsz
    have hog := hk3.og
    have hcm := own_notMap hk3.ord hk3.cls.map
    have hgl := HGL.out
    have hcl : cb < W.heap.size := h.cls.lt
    have hol : ∀ k, ov.ownBlock = some k → k < W.heap.size := fun k hk => (h.ord.lt k hk).2
    have hb4 : ∀ k, k < W.heap.size + 3 → ov.ownBlock ≠ some k → w4.heap[k]? = (w2.alloc (.cells #[.string n] 9)).heap[k]? := fun k hk hne => hgr.block k (by rw [hs3]; exact hk) (fun e => hne e.symm)
    have box4 := (hb4 g (by omega) hog).trans hk3.box
    refine ⟨⟨(four_cells box4).2.2.2, frozen_of_row _ g 3 _ _ box4⟩, _, rfl, ?_, ?_, _, rfl, ?_⟩
    · exact (Below.heap_setCell w4 ⟨g, 3, none⟩ v' W.heap.size (by simp only; omega)).trans ((hb4 W.heap.size (by omega) (fun e => by have := hol _ e; omega)).trans HX0.out)
    · exact (Below.heap_setCell w4 ⟨g, 3, none⟩ v' (W.heap.size + 1) (by simp only; omega)).trans ((hb4 (W.heap.size + 1) (by omega) (fun e => by have := hol _ e; omega)).trans HX1.out)
    have hx6 : (w4.setCell ⟨g, 3, none⟩ v').heap[W.heap.size + 1]? = some (.cells #[.string ⟨#[]⟩, .int .i64 0, .bool false] 49 (0, 0)) := (Below.heap_setCell w4 ⟨g, 3, none⟩ v' (W.heap.size + 1) (by simp only; omega)).trans ((hb4 (W.heap.size + 1) (by omega) (fun e => by have := hol _ e; omega)).trans HX1.out)
    have box6 : (w4.setCell ⟨g, 3, none⟩ v').heap[g]? = some (.cells #[.pointer (some ⟨s, 0, none⟩), .map (some vb), .map (some cb), v'] 88 (0, 0)) := heap_setCell_same w4 g 3 _ _ _ box4
    have hk7 : ∀ k, k ≠ W.heap.size + 1 → (((((w4.setCell ⟨g, 3, none⟩ v').setCell ⟨W.heap.size + 1, 0, none⟩ (.string n)).setCell ⟨W.heap.size + 1, 1, none⟩ (.int .i64 ck)).setCell ⟨W.heap.size + 1, 2, none⟩ (.bool cl)).setCell ⟨W.heap.size + 1, 2, none⟩ (.bool cl)).heap[k]? = (w4.setCell ⟨g, 3, none⟩ v').heap[k]? := fun k hne =>
      (Below.heap_setCell _ ⟨W.heap.size + 1, 2, none⟩ _ k hne).trans ((Below.heap_setCell _ ⟨W.heap.size + 1, 2, none⟩ _ k hne).trans ((Below.heap_setCell _ ⟨W.heap.size + 1, 1, none⟩ _ k hne).trans (Below.heap_setCell _ ⟨W.heap.size + 1, 0, none⟩ _ k hne)))
    have hx7 := heap_setCell_same _ (W.heap.size + 1) 2 _ _ (.bool cl) (heap_setCell_same _ (W.heap.size + 1) 2 _ _ (.bool cl) (heap_setCell_same _ (W.heap.size + 1) 1 _ _ (.int .i64 ck) (heap_setCell_same _ (W.heap.size + 1) 0 _ _ (.string n) hx6)))
    refine ⟨hx7, (four_cells ((hk7 g (by omega)).trans box6)).2.2.1, ?_⟩
    have hcm7 := hk3.cls.block ((hk7 cb (by omega)).trans ((Below.heap_setCell w4 ⟨g, 3, none⟩ v' cb (fun e => h.gc e.symm)).trans (hb4 cb (by omega) hcm)))
    obtain ⟨w8, hrun, hg8, hc8⟩ := put_C (W := (((((w4.setCell ⟨g, 3, none⟩ v').setCell ⟨W.heap.size + 1, 0, none⟩ (.string n)).setCell ⟨W.heap.size + 1, 1, none⟩ (.int .i64 ck)).setCell ⟨W.heap.size + 1, 2, none⟩ (.bool cl)).setCell ⟨W.heap.size + 1, 2, none⟩ (.bool cl)).drew) hcm7 n hn (by omega) ⟨n, ck, cl⟩ hlk2
    have hsd : (((((w4.setCell ⟨g, 3, none⟩ v').setCell ⟨W.heap.size + 1, 0, none⟩ (.string n)).setCell ⟨W.heap.size + 1, 1, none⟩ (.int .i64 ck)).setCell ⟨W.heap.size + 1, 2, none⟩ (.bool cl)).setCell ⟨W.heap.size + 1, 2, none⟩ (.bool cl)).drew.heap.size = w4.heap.size := by
      show (((((w4.setCell ⟨g, 3, none⟩ v').setCell ⟨W.heap.size + 1, 0, none⟩ (.string n)).setCell ⟨W.heap.size + 1, 1, none⟩ (.int .i64 ck)).setCell ⟨W.heap.size + 1, 2, none⟩ (.bool cl)).setCell ⟨W.heap.size + 1, 2, none⟩ (.bool cl)).heap.size = w4.heap.size
      rw [World.size_setCell, World.size_setCell, World.size_setCell, World.size_setCell, World.size_setCell]
    refine ⟨w8, hrun, ?_, ?_⟩
    · refine hk3.more hgr (by rw [hs3]; exact hloc) (by rw [HNM.out]; exact hown) w8 (W.heap.size + 1) (by omega) (fun e => ?_) (fun e => ?_) (by have := h.bg; omega) (fun k hk h1 h2 => ?_) hc8 HGD.out
      · obtain ⟨j, hj⟩ := h.vws
        have := hj.lt
        omega
      · rcases hloc with e2 | e2
        · rw [e2] at e
          have := hol _ e
          omega
        · rw [e2] at e
          have := Option.some.inj e
          omega
      · exact (hg8.block k (by rw [hsd]; exact hk) (fun e => h1 (Option.some.inj e))).trans (hk7 k h2)
    · refine OnlyK.trans ?_ (OnlyK.map hg8)
      refine (((OnlyK.of_below HON3.out).trans (OnlyK.app hgr (by rw [hs3]; exact hloc))).trans (OnlyK.setG g cb 3 v' w4 v')).news ?_
      exact ((((Below.refl _ _).setCell (p := ⟨W.heap.size + 1, 0, none⟩) (by simp) _).setCell (p := ⟨W.heap.size + 1, 1, none⟩) (by simp) _).setCell (p := ⟨W.heap.size + 1, 2, none⟩) (by simp) _).setCell (p := ⟨W.heap.size + 1, 2, none⟩) (by simp) _ |>.drew
  obtain ⟨ns, hns⟩ : ∃ ns, L.map (·.nm) = ns := ⟨_, rfl⟩
  have ho9 := HO3.out
  rw [hns] at hgr HSL ho9 hroom
  have HO9 := Lib.hid ho9
  have HGR := Lib.hid hgr
  obtain ⟨A0, c0, hov⟩ := HSL.out
  subst hov
  have HWW := HW2.out
  have p0 := cell_of_row _ W.heap.size 1 _ _ (0, 0) hx0
  clear h hon hk0 hlk hon2 hk2 hon3 hk3 hx1 hlk2 hd hn hm hgr ho3 hlc hz hx0 hns ho9 HO3 HSL
  subst HWW
  cases cl with
  | true =>
    go_enter Try.func83, Try.ntmps83
    go_wp2_with (at_builtin; refine wp_append_F el_Str _ rfl (.tmp 23) (.tmp 25) rfl base (.slice A0 ns.length c0) ns n rfl (by exact HO9.out) ⟨W.heap.size + 2, 0, none⟩ 1 rfl (by exact HLC.out) hroom hbase ?_; intro v' w4 hown' hb4 hgrow hor; obtain ⟨A7, c7, hv7⟩ := hown'.shape; rw [List.length_append, List.length_singleton] at hv7; subst hv7; obtain ⟨⟨cc, ff⟩, w6, hw6, hA, hB, w7, hw7, hC, hD, w8, hrun, hKN, hON⟩ := HGR.out _ w4 hown' hgrow hor; subst hw6; subst hw7; obtain ⟨a0, a1, a2⟩ := three_cells hA; obtain ⟨q0, q1, q2⟩ := three_cells hB; have f0 := frozen_of_row _ (W.heap.size + 1) 0 _ _ hB; have f1 := frozen_of_row _ (W.heap.size + 1) 1 _ _ hB; have f2 := frozen_of_row _ (W.heap.size + 1) 2 _ _ hB; obtain ⟨r0, r1, r2⟩ := three_cells hC; have HKN := Lib.hid hKN; have HONN := Lib.hid hON; clear hA hB hC hown' hb4 hgrow hor hKN hON)
    go_region
    go_wp2
    go_end0
    exact ⟨rfl, _, HKN.out, HONN.out⟩
  | false =>
    go_enter Try.func83, Try.ntmps83
    go_wp2_with (at_builtin; refine wp_append_F el_Str _ rfl (.tmp 23) (.tmp 25) rfl base (.slice A0 ns.length c0) ns n rfl (by exact HO9.out) ⟨W.heap.size + 2, 0, none⟩ 1 rfl (by exact HLC.out) hroom hbase ?_; intro v' w4 hown' hb4 hgrow hor; obtain ⟨A7, c7, hv7⟩ := hown'.shape; rw [List.length_append, List.length_singleton] at hv7; subst hv7; obtain ⟨⟨cc, ff⟩, w6, hw6, hA, hB, w7, hw7, hC, hD, w8, hrun, hKN, hON⟩ := HGR.out _ w4 hown' hgrow hor; subst hw6; subst hw7; obtain ⟨a0, a1, a2⟩ := three_cells hA; obtain ⟨q0, q1, q2⟩ := three_cells hB; have f0 := frozen_of_row _ (W.heap.size + 1) 0 _ _ hB; have f1 := frozen_of_row _ (W.heap.size + 1) 1 _ _ hB; have f2 := frozen_of_row _ (W.heap.size + 1) 2 _ _ hB; obtain ⟨r0, r1, r2⟩ := three_cells hC; have HKN := Lib.hid hKN; have HONN := Lib.hid hON; clear hA hB hC hown' hb4 hgrow hor hKN hON)
    go_region
    go_wp2
    go_end0
    exact ⟨rfl, _, HKN.out, HONN.out⟩
end
end Go.Proofs.Ythdjkagodccdbaa
namespace Go.Proofs.Ythdjkagodccdbaa
section
open Go.RowKit Go.Maps

theorem k_bind {base : Nat} {W : World} {g s vb cb : Nat} {ov : Value} {S : List Sc} {ls : List RS} {U : List Sc} {L : List Co} {m : Nat} (h : KnowAt base W g s vb cb ov S ls U L m) (hm : m ≤ 900000) (n : ByteArray) (hn : n.size ≤ maxLen) (c : Co) :
    Calls Try.prog 83 #[.pointer (some ⟨g, 0, none⟩), .string n, c.val] W fun e W' => e = .returned (.tuple #[]) ∧ ∃ ov', KnowAt base W' g s vb cb ov' S ls U (bindC L ⟨n, c.k, c.nl⟩) (m + 1) ∧ OnlyK g cb ov ov' W W' := by
  obtain ⟨cn, ck, cl⟩ := c
  cases hd : findC L n with
  | none => exact k_bind_new h hm n hn cn ck cl hd
  | some d =>
    obtain ⟨dn, dk, dl⟩ := d
    obtain rfl : dn = n := findC_nm hd
    exact k_bind_hit h hm dn hn cn ck cl dk dl hd

theorem cmpT_two (L : List Co) (a b : TmP) : cmpT L [a, b] = if kindT L a ≠ kindT L b ∧ kindT L a ≠ 0 ∧ kindT L b ≠ 0 then 11 else 0 := rfl
theorem cmpT_not (L : List Co) (l : List TmP) (h : l.length ≠ 2) : cmpT L l = 9 := by
  match l, h with
  | [], _ => rfl
  | [_], _ => rfl
  | [_, _], h => exact absurd rfl h
  | _ :: _ :: _ :: _, _ => rfl

set_option maxRecDepth 100000 in
set_option maxHeartbeats 4000000 in
theorem k_comparison {base : Nat} {W : World} {g s vb cb : Nat} {ov : Value} {S : List Sc} {ls : List RS} {U : List Sc} {L : List Co} {m : Nat} (h : KnowAt base W g s vb cb ov S ls U L m) (ts : List TmP) (A : Option Addr) (cp : Nat) (hl : ts.length ≤ maxLen) (hx : ElsAt TmP.cells 6 W A ts) (hs : ∀ t ∈ ts, t.s.size ≤ maxLen) :
    Calls Try.prog 79 #[.pointer (some ⟨g, 0, none⟩), .slice A ts.length cp] W fun e W' => e = .returned (.int .i64 (cmpT L ts)) ∧ Below W.heap.size W W' := by
  by_cases h2 : ts.length = 2
  · match ts, h2 with
    | [a, b], _ =>
      have HKA : Hid (∀ w, Below W.heap.size W w → Calls Try.prog 89 #[.pointer (some ⟨g, 0, none⟩), a.val] w fun e W' => e = .returned (.int .i64 (kindT L a)) ∧ Below w.heap.size w W') := Lib.hid fun w hw => k_kind (h.below hw) a (hs a (by simp))
      have HKB : Hid (∀ w, Below W.heap.size W w → Calls Try.prog 89 #[.pointer (some ⟨g, 0, none⟩), b.val] w fun e W' => e = .returned (.int .i64 (kindT L b)) ∧ Below w.heap.size w W') := Lib.hid fun w hw => k_kind (h.below hw) b (hs b (by simp))
      obtain ⟨p, rfl, -⟩ := els_T (i := 0) hx rfl
      have HC : Hid (∀ w, Below W.heap.size W w → (w.cell? p = some (.string a.s) ∧ w.cell? { block := p.block, off := p.off + 1 } = some (.bool a.a) ∧ w.cell? { block := p.block, off := p.off + 2 } = some (.int .i64 a.v.k) ∧ w.cell? { block := p.block, off := p.off + 3 } = some (.bool a.v.f) ∧ w.cell? { block := p.block, off := p.off + 4 } = some (.int .i64 a.v.n) ∧ w.cell? { block := p.block, off := p.off + 5 } = some (.string a.v.t)) ∧ (w.cell? { block := p.block, off := p.off + 6 } = some (.string b.s) ∧ w.cell? { block := p.block, off := p.off + 6 + 1 } = some (.bool b.a) ∧ w.cell? { block := p.block, off := p.off + 6 + 2 } = some (.int .i64 b.v.k) ∧ w.cell? { block := p.block, off := p.off + 6 + 3 } = some (.bool b.v.f) ∧ w.cell? { block := p.block, off := p.off + 6 + 4 } = some (.int .i64 b.v.n) ∧ w.cell? { block := p.block, off := p.off + 6 + 5 } = some (.string b.v.t))) := Lib.hid fun w hw => by
        obtain ⟨q, hq, x0, x1, x2, x3, x4, x5⟩ := els_T (i := 0) (hx.below hw) rfl
        obtain ⟨q', hq', y0, y1, y2, y3, y4, y5⟩ := els_T (i := 1) (hx.below hw) rfl
        injection hq with hq
        injection hq' with hq'
        subst hq hq'
        refine ⟨⟨?_, ?_, ?_, ?_, ?_, ?_⟩, ?_, ?_, ?_, ?_, ?_, ?_⟩
        · simpa [Addr.add] using x0
        · simpa [Addr.add] using x1
        · simpa [Addr.add] using x2
        · simpa [Addr.add] using x3
        · simpa [Addr.add] using x4
        · simpa [Addr.add] using x5
        · simpa [Addr.add] using y0
        · simpa [Addr.add] using y1
        · simpa [Addr.add] using y2
        · simpa [Addr.add] using y3
        · simpa [Addr.add] using y4
        · simpa [Addr.add] using y5
      have HCM := Lib.hid (cmpT_two L a b)
      generalize cmpT L [a, b] = q at *
      have b2 : (((([a, b] : List TmP).length : Nat) : Int) != 2) = false := rfl
      obtain ⟨sa, aa, ⟨avk, avf, avn, avt⟩⟩ := a
      obtain ⟨sb, ba, ⟨bvk, bvf, bvn, bvt⟩⟩ := b
      generalize kindT L ⟨sa, aa, ⟨avk, avf, avn, avt⟩⟩ = x at HKA HCM
      generalize kindT L ⟨sb, ba, ⟨bvk, bvf, bvn, bvt⟩⟩ = y at HKB HCM
      obtain ⟨⟨a0, a1, a2, a3, a4, a5⟩, ⟨f0, f1, f2, f3, f4, f5⟩⟩ := HC.out _ (Below.refl _ _)
      clear h hl hx hs
      show Calls Try.prog 79 #[.pointer (some ⟨g, 0, none⟩), .slice (some p) 2 cp] W fun e W' => e = .returned (.int .i64 q) ∧ Below W.heap.size W W'
      go_enter Try.func79, Try.ntmps79
      go_wp2
      go_region_held3 (fun w' : World => w'.cell? p = some (Value.string sa) ∧ w'.cell? { block := p.block, off := p.off + 1 } = some (Value.bool aa) ∧ w'.cell? { block := p.block, off := p.off + 2 } = some (Value.int .i64 avk) ∧ w'.cell? { block := p.block, off := p.off + 3 } = some (Value.bool avf) ∧ w'.cell? { block := p.block, off := p.off + 4 } = some (Value.int .i64 avn) ∧ w'.cell? { block := p.block, off := p.off + 5 } = some (Value.string avt) ∧ w'.cell? { block := p.block, off := p.off + 6 } = some (Value.string sb) ∧ w'.cell? { block := p.block, off := p.off + 6 + 1 } = some (Value.bool ba) ∧ w'.cell? { block := p.block, off := p.off + 6 + 2 } = some (Value.int .i64 bvk) ∧ w'.cell? { block := p.block, off := p.off + 6 + 3 } = some (Value.bool bvf) ∧ w'.cell? { block := p.block, off := p.off + 6 + 4 } = some (Value.int .i64 bvn) ∧ w'.cell? { block := p.block, off := p.off + 6 + 5 } = some (Value.string bvt)) (go_keep)
        (first
          | (go_at_call 89; refine (HKA.out _ (Below.refl _ _).drew).mono ?_; rintro e w1 ⟨rfl, hb1⟩; have HB1 := Lib.hid ((Below.refl _ _).drew.trans hb1); obtain ⟨⟨g0, g1, g2, g3, g4, g5⟩, ⟨b0, d1, d2, d3, d4, d5⟩⟩ := HC.out _ HB1.out; clear HKA hb1)
          | (go_at_call 89; refine (HKB.out _ HB1.out).mono ?_; rintro e w2 ⟨rfl, hb2⟩; have HB2 := Lib.hid (HB1.out.trans (hb2.mono HB1.out.size)); obtain ⟨⟨i0, i1, i2, i3, i4, i5⟩, ⟨j0, j1, j2, j3, j4, j5⟩⟩ := HC.out _ HB2.out; clear HKB hb2))
      all_goals
        by_cases e1 : x = y
        · have t1 : (x != y) = false := by simpa using e1
          have HE := Lib.hid e1
          clear e1
          go_wp2
          go_ret
          exact ⟨by rw [HCM.out, if_neg (fun z => z.1 HE.out)]; rfl, HB2.out⟩
        · have t1 : (x != y) = true := by simpa using e1
          have HE := Lib.hid e1
          clear e1
          by_cases e2 : x = 0
          · have t2 : (x != 0) = false := by simpa using e2
            have HE2 := Lib.hid e2
            clear e2
            go_wp2
            go_ret
            exact ⟨by rw [HCM.out, if_neg (fun z => z.2.1 HE2.out)]; rfl, HB2.out⟩
          · have t2 : (x != 0) = true := by simpa using e2
            have HE2 := Lib.hid e2
            clear e2
            by_cases e3 : y = 0
            · have t3 : (y != 0) = false := by simpa using e3
              have HE3 := Lib.hid e3
              clear e3
              go_wp2
              go_ret
              exact ⟨by rw [HCM.out, if_neg (fun z => z.2.2 HE3.out)]; rfl, HB2.out⟩
            · have t3 : (y != 0) = true := by simpa using e3
              have HE3 := Lib.hid e3
              clear e3
              go_wp2
              go_ret
              exact ⟨by rw [HCM.out, if_pos ⟨HE.out, HE2.out, HE3.out⟩]; rfl, HB2.out⟩
  · have HCM := Lib.hid (cmpT_not L ts h2)
    have hb : ((ts.length : Int) != 2) = true := by
      rw [bne_iff_ne]
      omega
    clear h hx hs
    rw [HCM.out]
    go_enter Try.func79, Try.ntmps79
    go_wp2
    go_ret
    exact ⟨rfl, Below.refl _ _⟩
end
end Go.Proofs.Ythdjkagodccdbaa
