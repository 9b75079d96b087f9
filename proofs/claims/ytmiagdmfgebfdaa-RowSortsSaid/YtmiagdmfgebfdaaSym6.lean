/-
  Sort of package row answers the rows in order, each once, in a list and rows of its own; nothing that was there is changed.
  At every list of fewer than 1000 rows.
-/
import Derived.Test.YtmiagdmfgebfdaaSym5
import Derived.Test.YtmiagdmfgebfdaaOf
namespace Go.Proofs.Ytmiagdmfgebfdaa
open Go.RowKit

theorem info_int : (Try.prog.info? 3).map (fun i => (i.zero, i.size, i.bytes)) = some (some (.int .i64 0), 1, 8) := by kernel_rfl
theorem made_zero (n : Nat) : madeCells (Value.int .i64 0).cells (n * 1) = ((List.range n).map (fun i => Value.int .i64 (((fun _ => 0) i : Nat) : Int))).toArray := by
  rw [Nat.mul_one, ← Array.toList_inj]
  apply List.ext_getElem
  · simp [madeCells]
  · intro i h1 h2
    simp [madeCells, Value.cells, Nat.mod_one]
theorem wp_make_P {ops : Array Oper} {rest : List Oper} {o : Oper} {a : Act} {Q : Exit → Act → World → Prop} (w : World) (hg : o.guard = none) (l c : Operand) (hop : o.op = Op.makeSlice 60 l c)
    (n : Nat) (hl : a.eval l = .int .i64 (n : Int)) (hc : a.eval c = .int .i64 (n : Int)) (hn : n ≤ 3000000)
    (h : ∀ w', PAt w' w.heap.size n (fun _ => 0) → Below w.heap.size w w' → wpList Try.prog ops Q rest (a.put o.dst (.slice (some ⟨w.heap.size, 0, none⟩) n n)) w') : wpList Try.prog ops Q (o :: rest) a w := by
  obtain ⟨i, hi, hz, hsize, hby⟩ := info_parts info_int
  refine wpList_plain hg fun K hK' => ?_
  have hrun := run_make (P := Try.prog) w 60 3 i (.int .i64 0) Try.underlying60 hi hz .i64 .i64 n n (by omega) (by omega) (by rw [hby]; omega) (by omega)
  rw [hsize, Int.toNat_natCast, made_zero] at hrun
  unfold Oper.wp
  simp [execOp, hop, hl, hc, hrun, Result.andThen]
  exact hK' _ _ (h _ (heap_alloc_new w _) (one_new w _))
theorem wp_make_L {ops : Array Oper} {rest : List Oper} {o : Oper} {a : Act} {Q : Exit → Act → World → Prop} (w : World) (hg : o.guard = none) (l c : Operand) (hop : o.op = Op.makeSlice 22 l c)
    (base : Nat) (n : Nat) (hl : a.eval l = .int .i64 0) (hc : a.eval c = .int .i64 (n : Int)) (hn : n ≤ 3000000) (hbase : base ≤ w.heap.size)
    (h : ∀ v' w', OwnS w' base v' [] → Below base w w' → wpList Try.prog ops Q rest (a.put o.dst v') w') : wpList Try.prog ops Q (o :: rest) a w := by
  obtain ⟨i, hi, hz, hsize, hby⟩ := info_parts info_S
  exact wpList_make_own w hg l c 22 hop base 34 i _ 1 Try.underlying22 hi hz hsize .i64 .i64 _ n hl hc rfl (by rw [hby]; omega) (by unfold maxLen; omega) hbase
    fun w' h1 h2 => h _ w' h1 ((Below.refl _ _).grown h2 hbase (fun k hk => by cases hk))

theorem IsRw.own {w' : World} {base : Nat} {Q : Nat → Prop} {v : Value} {xs : List V} (h : Own w' base v xs) (hl : xs.length ≤ 1100000) (hQ : ∀ k, base ≤ k → Q k) : IsRw w' Q v xs := by
  rcases h.2 with ⟨rfl, hn⟩ | ⟨g, cap, cur, rfl, hb, hg, hcap, _⟩
  · have hx : xs = [] := List.length_eq_zero_iff.1 hn
    subst hx
    exact ⟨hl, none, 0, rfl, fun i v hi => by simp at hi⟩
  · obtain ⟨A, c, he, _, hr⟩ := h.row
    injection he with h1 h2 h3
    subst h1
    refine ⟨hl, _, cap, rfl, fun i u hi => ?_⟩
    obtain ⟨a, ha, hlt, hat⟩ := hr i u hi
    injection ha with ha
    subst ha
    refine ⟨_, rfl, ?_, hat⟩
    rw [show ((⟨g, 0, none⟩ : Addr).add (i * 4)).block = g from by unfold Addr.add; split <;> rfl]
    exact hQ _ hb
theorem rw_next {h : Nat} {wr w2 w3 w7 : World} {v v' u : Value} {us : List Value} {pre : List (List V)} {x : List V} {o : Obj} (hown : OwnS wr h v us) (hb : Below wr.heap.size wr w2)
    (hen : RwsQ wr (fun k => some k ≠ v.ownBlock) us pre) (hu : IsRw w2 (fun k => wr.heap.size ≤ k) u x) (e3 : w3 = w2.alloc o) (hg : w3.grownBy w7 v.ownBlock) (hor : v'.ownBlock = v.ownBlock ∨ v'.ownBlock = some w3.heap.size) :
    RwsQ w7 (fun k => some k ≠ v'.ownBlock) (us ++ [u]) (pre ++ [x]) := by
  subst e3
  have hlt : ∀ k, v.ownBlock = some k → k < wr.heap.size := fun k hk => (World.ownsRow.lt hown k hk).2
  have hs := hb.size
  have key : ∀ k, k < w2.heap.size → some k ≠ v.ownBlock → some k ≠ v'.ownBlock := by
    intro k hk hkv
    rcases hor with h | h
    · rw [h]
      exact hkv
    · rw [h, World.size_alloc]
      intro e
      injection e with e
      omega
  have h1 : RwsQ w2 (fun k => some k ≠ v.ownBlock ∧ some k ≠ v'.ownBlock) (us ++ [u]) (pre ++ [x]) := by
    refine RwsQ.append (RwsQ.imp (fun k hk h => ⟨h, key k hk h⟩) (RwsQ.keep (Below.keepQ hb _) hen)) ⟨hu.imp (fun k hk h => ?_), trivial⟩
    have hkv : some k ≠ v.ownBlock := fun e => by have := hlt k e.symm; omega
    exact ⟨hkv, key k hk hkv⟩
  refine RwsQ.imp (fun k _ h => h.2) (RwsQ.keep ?_ h1)
  intro k hk hlt3
  rw [hg.block k (by simp; omega) (fun e => hk.1 (by rw [e])), Below.heap_alloc _ _ _ hlt3]

theorem rows_later {w w' : World} {B B' : Nat} {L : Option Addr} {rs : List Rw} (h : RowsAt w B L rs) (hb : Below B w w') (hB : B ≤ B') : RowsAt w' B' L rs := by
  intro i r hi
  obtain ⟨a, ha, hlt, hc, hr, hn⟩ := h i r hi
  exact ⟨a, ha, Nat.lt_of_lt_of_le hlt hB, (hb.cell hlt).trans hc, (hr.below hb).more hB, hn⟩

set_option maxRecDepth 100000 in
set_option maxHeartbeats 8000000 in
theorem row_sort (rs : List Rw) (L : Option Addr) (n c : Nat) (w : World) (hn : n = rs.length) (hl : n ≤ 1000) (hrs : RowsAt w w.heap.size L rs) (hfew : ∀ r ∈ rs, r.xs.length ≤ 1000000) :
    Calls Try.prog 9 #[.slice L n c] w fun e w' => ∃ v us, e = .returned v ∧ OwnS w' w.heap.size v us ∧ RwsQ w' (fun _ => True) us (sortL (rs.map (·.xs))) ∧ Below w.heap.size w w' := by
  have HN := Lib.hid hn
  have HBX : Hid (∀ w1, Below w.heap.size w w1 → w1.heap.size = w.heap.size + 1 → w1.cell? ⟨w.heap.size, 0, none⟩ = some (.slice L n c) → Box w1 (w.heap.size + 1) ⟨w.heap.size, 0, none⟩ L n c rs) :=
    Lib.hid (fun w1 hb hs hc => ⟨hn, rows_later hrs hb (by omega), Nat.lt_succ_self _, hc, hfew, by omega⟩)
  obtain ⟨W0, hW0⟩ : ∃ W0, W0 = w.alloc (.cells #[.slice L n c] 22) := ⟨_, rfl⟩
  obtain ⟨g, hgs⟩ : ∃ g, g = w.heap.size + 1 := ⟨_, rfl⟩
  have hW1 : Below w.heap.size w W0 := by rw [hW0]; exact one_new w _
  have hW2 : W0.heap.size = g := by rw [hW0, World.size_alloc, hgs]
  have hbx := HBX.out W0 hW1 (by rw [hW2, hgs]) (by rw [hW0]; exact alloc_new_cells _ _ _ 0)
  rw [← hgs] at hbx
  have HB0 := Lib.hid hbx
  have HW1 := Lib.hid hW1
  have HGS := Lib.hid hgs
  have HW2 := Lib.hid hW2
  have HW0 := Lib.hid hW0
  clear hn hrs hfew HBX hbx hW1 hgs hW2 hW0
  go_enter Try.func9, Try.ntmps9
  go_wp2_with (at_make; go_must (refine wp_make_P _ rfl _ _ rfl n rfl rfl (by omega) ?_; intro w1 hp1 hb1; rw [← HW0.out, HW2.out] at hp1 hb1; (try rw [← HW0.out]); (try rw [HW2.out]); have HP1 := Lib.hid hp1; have HB1 := Lib.hid hb1; clear hp1 hb1))
  go_loopw [15] (fun i wr => ∃ (k : Nat), k ≤ n ∧ i = .int .i64 k ∧ PAt wr g n (fun p => if p < k then p else 0) ∧ Below g W0 wr) (fun i _ => n - (intOf i).toNat)
  case atStart => exact ⟨0, Nat.zero_le _, rfl, HP1.out, HB1.out⟩
  case round =>
    obtain ⟨k, hk, rfl, hp, hb⟩ := hrel
    by_cases hlt : k < n
    · have c1 := hp.cell k hlt
      have c2 := hp.free k
      have HS := Lib.hid (hp.set k k)
      have HB := Lib.hid (hb.setCell (p := { block := g, off := k }) (Nat.le_refl g) (.int .i64 (k : Int)))
      clear hp hb
      go_wp2
      go_roundw
      case rel =>
        refine ⟨k + 1, by omega, by go_num, HS.out.same ?_, HB.out⟩
        funext p
        unfold upd
        dsimp only
        split <;> split <;> first | omega | rfl | (split <;> omega)
      case measure => simp [intOf]; omega
    · obtain rfl : k = n := by omega
      have HP : Hid (PAt wr g k id) := Lib.hid (by
        unfold PAt at hp ⊢
        rw [hp]
        congr 3
        apply List.map_congr_left
        intro p hp
        show Value.int .i64 ((if p < k then p else 0 : Nat) : Int) = Value.int .i64 ((p : Nat) : Int)
        rw [if_pos (List.mem_range.1 hp)])
      have HS := Lib.hid (p_sort g k k (ltR rs) ⟨w.heap.size, 0, none⟩ W0 wr (ltp_trans rs) (sort_cmp HB0.out) (by omega) HP.out hb)
      rename_i n
      clear hp hb HP HP1 HB1
      go_wp2_with fail
      refine HS.out.mono ?_
      rintro e w2 ⟨rfl, f, hgd, hp2, hb2⟩
      have HORD := Lib.hid (ord_of_gd hgd)
      have HP2 := Lib.hid hp2
      have HB2 := Lib.hid hb2
      have hg2 := hp2.lt
      have hgs2 : w.heap.size ≤ g := by have := HGS.out; omega
      have q2 := HB0.out.box hb2
      have hql := HB0.out.low
      clear hgd hp2 hb2 HS
      go_wp2_with (at_make; go_must (refine wp_make_L _ rfl _ _ rfl w2.heap.size k rfl rfl (by omega) (Nat.le_refl _) ?_; intro v3 w3 hown3 hb3; have HO3 := Lib.hid hown3; have HB3 := Lib.hid hb3; clear hown3 hb3))
      go_loopw [6, 32] (fun v i wr => ∃ (j : Nat) (us : List Value) (out : List (List V)), j ≤ k ∧ i = .int .i64 j ∧ OwnS wr w2.heap.size v us ∧ RwsQ wr (fun j => some j ≠ v.ownBlock) us out ∧ Hid (Dd rs k f j out) ∧ Below w2.heap.size w2 wr) (fun _ i _ => k - (intOf i).toNat)
      case atStart => exact ⟨0, [], [], Nat.zero_le _, rfl, HO3.out, trivial, Lib.hid (Dd.zero _ _ _), HB3.out⟩
      case round =>
        obtain ⟨n, hn⟩ : ∃ n, n = k := ⟨_, rfl⟩
        subst hn
        obtain ⟨k, us, out, hkn, rfl, hown, hen, HDD, hb⟩ := hrel
        have HO := Lib.hid hown
        have HEN := Lib.hid hen
        have HB := Lib.hid hb
        have hsz := hb.size
        by_cases hk : k < n
        · have hW : Below g W0 wr := HB2.out.trans (hb.mono (by omega))
          have hpc := (HP2.out.below hb hg2).cell k hk
          obtain ⟨x, hx⟩ : ∃ x, f k = x := ⟨_, rfl⟩
          rw [hx] at hpc
          have hxn : x < n := by rw [← hx]; exact HORD.out.low k hk
          have hgr : g ≤ wr.heap.size := by omega
          have HQC := Lib.hid (HB0.out.box hW)
          obtain ⟨a, A, m, cx, xs, ha, exs, em, hm, hab, hac, hra, hA0⟩ := HB0.out.at hW x hxn
          subst ha
          have HXE : Hid (rwAt rs (f k) = xs) := Lib.hid (by rw [hx]; exact exs)
          have HAC := Lib.hid hac
          have HRA := Lib.hid (hra.more hgr)
          have HA0 := Lib.hid hA0
          have HEM := Lib.hid em
          have hmx : xs.length ≤ 1000000 := by omega
          have hlen := hen.len
          have hul : us.length ≤ k := by
            rw [hlen]
            exact HDD.out.len
          obtain ⟨A0, c0, hv, hcc, hgc⟩ := hown.cells
          obtain ⟨XE, xf, hXN, hX1, hX0, hX2⟩ := ext_classS wr.heap.size wr (Nat.le_refl _)
          have HX1 := Lib.hid hX1
          have HX2 := Lib.hid hX2
          have hin := hX0 wr.drew (Below.drew (Below.refl _ _))
          have b0 := fun e => (((HX1.out e).cell (p := ⟨w.heap.size, 0, none⟩) (Nat.lt_of_lt_of_le hql hgr)).trans HQC.out : (xf e).cell? ⟨w.heap.size, 0, none⟩ = _)
          have b1 := fun e => (((HX1.out e).cell (p := a.add x) (Nat.lt_of_lt_of_le hab hgr)).trans HAC.out : (xf e).cell? (a.add x) = _)
          clear hX1 hX0 hX2
          rcases Nat.eq_zero_or_pos us.length with hu0 | hu0
          · rw [hu0] at hv
            subst hv
            have HNE : Hid (∀ z ∈ out, cmpR z (rwAt rs (f k)) ≠ 0) := Lib.hid (fun z hz => by
              rw [hu0] at hlen
              rw [List.length_eq_zero_iff.1 hlen.symm] at hz
              cases hz)
            clear hown hen hb hW hac hra hA0 hgc exs hx hlen em
            go_wp2_with fail
            refine wp_region_quiet (C := fun W => ∃ e, W = xf e) (by kernel_rfl) (by kernel_rfl) hin ?_
            clear hin
            dsimp only
            repeat (go_big_quiet_step (fail))
            refine wpQuiet_nil ?_
            intro w5 hW5
            obtain ⟨ee, hW5⟩ := hW5
            have hb5 : Below wr.heap.size wr w5 := by rw [hW5]; exact HX1.out ee
            clear hW5 b0 b1
            have hq5 := (hb5.cell (p := ⟨w.heap.size, 0, none⟩) (Nat.lt_of_lt_of_le hql hgr)).trans HQC.out
            have hx5 := (hb5.cell (p := a.add x) (Nat.lt_of_lt_of_le hab hgr)).trans HAC.out
            have hs5 := hb5.size
            have HOF := Lib.hid (row_of A xs m cx w5 HEM.out HA0.out (by omega) (HRA.out.later hb5))
            have HB5 := Lib.hid hb5
            clear hb5
            go_wp2_with fail
            refine HOF.out.mono ?_
            rintro e w6 ⟨uv, rfl, hown6, hb6⟩
            have hb6' : Below wr.heap.size wr w6 := HB5.out.trans (hb6.mono hs5)
            have hs6 := hb6'.size
            have hu := IsRw.own (Q := fun k => wr.heap.size ≤ k) hown6 (by omega) (fun k hk => Nat.le_trans hs5 hk)
            have HU := Lib.hid hu
            have HB6 := Lib.hid hb6'
            have HO6 := Lib.hid (HO.out.below hb6')
            obtain ⟨-, A9, c9, rfl, -⟩ := id hu
            rw [← HEM.out] at HU
            rw [← HEM.out]
            clear hown6 hb6 hb6' hu hq5 hx5 HOF
            go_wp2_with (at_builtin; go_must (refine wp_append_S _ rfl (.tmp 53) (.tmp 59) rfl w2.heap.size _ us [Value.slice A9 m c9] rfl (HO6.out.alloc _) _ 1 _ rfl rfl (lit_S w6 _ _) (by simp [Value.oneCell']) (by simp; omega) (by simp; omega) ?_; intro v7 w7 hown7 hb7 hg7 hor7))
            have hrw7 := rw_next HO.out HB6.out HEN.out HU.out rfl hg7 hor7
            have hb7' : Below w2.heap.size wr w7 := (HB6.out.mono hsz).trans (((one_new w6 _).mono (Nat.le_trans hsz hs6)).trans hb7)
            go_roundw
            case rel => exact ⟨k + 1, us ++ [Value.slice A9 m c9], out ++ [xs], by omega, by go_num, hown7, hrw7, Lib.hid (by rw [← HXE.out]; exact HDD.out.push HORD.out hk HNE.out), HB.out.trans hb7'⟩
            case measure => simp [intOf]; omega
          · obtain ⟨u, hu⟩ : ∃ u, us.length = u + 1 := ⟨us.length - 1, by omega⟩
            obtain ⟨y, hy⟩ : ∃ y, out[u]? = some y := ⟨_, List.getElem?_eq_getElem (by omega)⟩
            obtain ⟨yv, hyv, hyr⟩ := hen.get u y hy
            obtain ⟨a0, rfl, ⟨_, hgl⟩, hgc⟩ := hgc u yv hyv
            obtain ⟨hyl, Ay, cy, rfl, hyq⟩ := id hyr
            rw [hu] at hv
            subst hv
            have HY := Lib.hid hy
            have HYA := Lib.hid hyq.at
            have HYE := Lib.hid hgc
            have HSM := Lib.hid (fun (W : World) (hb : Below wr.heap.size wr W) => row_same Ay A y xs y.length m cy cx W rfl HEM.out (by unfold maxLen; omega) (HYA.out.later hb) (HRA.out.later hb))
            have b2 := fun e => (((HX1.out e).cell (p := a0.add u) hgl).trans HYE.out : (xf e).cell? (a0.add u) = _)
            have hul2 : out.length = u + 1 := by omega
            clear hown hen hb hW hac hra hA0 hgc exs hlen hy hyv hyr hyq em
            have g1 : ((((u + 1 : Nat)) : Int) == 0) = false := by simp; omega
            have g2 : (((u : Int) + 1) == 0) = false := by simp; omega
            have g3 : decide ((u : Int) + 1 = 0) = false := by simp; omega
            have g4 : IntKind.i64.wrap ((u : Int) + 1 - 1) = (u : Int) := by rw [IntWalk.i64_in _ (by omega)]; omega
            by_cases h0 : cmpR y xs = 0
            · have hcc0 : (cmpR y xs == 0) = true := by simpa using h0
              rw [hcc0] at HSM
              have HKP : Hid (Dd rs n f (k + 1) out) := Lib.hid (HDD.out.keep y (List.mem_of_getElem? HY.out) (by rw [HXE.out]; exact h0))
              clear hx
              go_wp2_with fail
              refine wp_region_quiet (C := fun W => ∃ e, W = xf e) (by kernel_rfl) (by kernel_rfl) hin ?_
              clear hin
              dsimp only
              repeat (go_big_quiet_step ((go_at_call 29; refine (HSM.out _ (HX1.out _)).mono ?_; rintro e w5 ⟨rfl, hb5⟩; exact ⟨rfl, HX2.out _ _ hb5⟩)))
              refine wpQuiet_nil ?_
              intro w5 hW5
              obtain ⟨ee, hW5⟩ := hW5
              have hb5 : Below wr.heap.size wr w5 := by rw [hW5]; exact HX1.out ee
              clear hW5 b0 b1 b2
              go_wp2
              go_roundw
              case rel => exact ⟨k + 1, us, out, by omega, by go_num, HO.out.below hb5, HEN.out.keep (Below.keepQ hb5 _), HKP, HB.out.trans (hb5.mono hsz)⟩
              case measure => simp [intOf]; omega
            · have hcc0 : (cmpR y xs == 0) = false := by simpa using h0
              rw [hcc0] at HSM
              have HNE : Hid (∀ z ∈ out, cmpR z (rwAt rs (f k)) ≠ 0) := Lib.hid (HDD.out.last hk hul2 y HY.out (by rw [HXE.out]; exact h0))
              clear hx
              go_wp2_with fail
              refine wp_region_quiet (C := fun W => ∃ e, W = xf e) (by kernel_rfl) (by kernel_rfl) hin ?_
              clear hin
              dsimp only
              repeat (go_big_quiet_step ((go_at_call 29; refine (HSM.out _ (HX1.out _)).mono ?_; rintro e w5 ⟨rfl, hb5⟩; exact ⟨rfl, HX2.out _ _ hb5⟩)))
              refine wpQuiet_nil ?_
              intro w5 hW5
              obtain ⟨ee, hW5⟩ := hW5
              have hb5 : Below wr.heap.size wr w5 := by rw [hW5]; exact HX1.out ee
              clear hW5 b0 b1 b2
              have hq5 := (hb5.cell (p := ⟨w.heap.size, 0, none⟩) (Nat.lt_of_lt_of_le hql hgr)).trans HQC.out
              have hx5 := (hb5.cell (p := a.add x) (Nat.lt_of_lt_of_le hab hgr)).trans HAC.out
              have hs5 := hb5.size
              have HOF := Lib.hid (row_of A xs m cx w5 HEM.out HA0.out (by omega) (HRA.out.later hb5))
              have HB5 := Lib.hid hb5
              clear hb5
              go_wp2_with fail
              refine HOF.out.mono ?_
              rintro e w6 ⟨uv, rfl, hown6, hb6⟩
              have hb6' : Below wr.heap.size wr w6 := HB5.out.trans (hb6.mono hs5)
              have hs6 := hb6'.size
              have hu := IsRw.own (Q := fun k => wr.heap.size ≤ k) hown6 (by omega) (fun k hk => Nat.le_trans hs5 hk)
              have HU := Lib.hid hu
              have HB6 := Lib.hid hb6'
              have HO6 := Lib.hid (HO.out.below hb6')
              obtain ⟨-, A9, c9, rfl, -⟩ := id hu
              rw [← HEM.out] at HU
              rw [← HEM.out]
              clear hown6 hb6 hb6' hu hq5 hx5 HOF
              go_wp2_with (at_builtin; go_must (refine wp_append_S _ rfl (.tmp 53) (.tmp 59) rfl w2.heap.size _ us [Value.slice A9 m c9] rfl (HO6.out.alloc _) _ 1 _ rfl rfl (lit_S w6 _ _) (by simp [Value.oneCell']) (by simp; omega) (by simp; omega) ?_; intro v7 w7 hown7 hb7 hg7 hor7))
              have hrw7 := rw_next HO.out HB6.out HEN.out HU.out rfl hg7 hor7
              have hb7' : Below w2.heap.size wr w7 := (HB6.out.mono hsz).trans (((one_new w6 _).mono (Nat.le_trans hsz hs6)).trans hb7)
              go_roundw
              case rel => exact ⟨k + 1, us ++ [Value.slice A9 m c9], out ++ [xs], by omega, by go_num, hown7, hrw7, Lib.hid (by rw [← HXE.out]; exact HDD.out.push HORD.out hk HNE.out), HB.out.trans hb7'⟩
              case measure => simp [intOf]; omega
        · obtain rfl : k = n := by omega
          have hdn := HDD.out.done HORD.out HN.out
          have HR := Lib.hid (show RwsQ wr (fun _ => True) us (sortL (rs.map (·.xs))) by rw [← hdn]; exact hen.imp (fun _ _ _ => trivial))
          have HOW := Lib.hid (hown.lower (show w.heap.size ≤ w2.heap.size by omega))
          have HBE := Lib.hid (HW1.out.trans ((HB2.out.mono hgs2).trans (hb.mono (by omega))))
          clear hdn hown hen hb
          go_wp2
          go_ret
          exact ⟨_, us, rfl, HOW.out, HR.out, HBE.out⟩
end Go.Proofs.Ytmiagdmfgebfdaa
