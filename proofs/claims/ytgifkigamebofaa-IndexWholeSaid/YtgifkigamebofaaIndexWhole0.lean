/-
  IndexWhole of verdererlaw06 answers true at every list of entries, in every world, and changes nothing that was there.
  No condition.
-/
import Derived.Test.YtgifkigamebofaaIwp
import Derived.Test.YtgifkigamebofaaIkn
import Derived.Test.YtgifkigamebofaaEwide
namespace Go.Proofs.Ytgifkigamebofaa
open Go.RowKit Go.Maps

attribute [local go_sem high] equal_val

theorem round6 {w wr : World} {x b s : Nat} {L : List En} {S : List Sh} (st : St9 w.heap.size x b s L L S wr) (hb : Below w.heap.size w wr) (hl : L.length ≤ 190) (R : Nat → Prop) (v : Value) (xs : List V) (k : Int) (hx : IsRow w R v xs) (hw : WideR xs) (hk : -9223372036854775808 ≤ k ∧ k ≤ 9223372036854775807) :
    (∃ r : Int, (r == 0) = false ∧ Calls Try.prog 23 #[.pointer (some ⟨x, 0, none⟩), v, .int .i64 k] wr (fun y w1 => y = .returned (.int .i64 r) ∧ Below w.heap.size w w1 ∧ ∃ S', St9 w.heap.size x b s L L S' w1)) ∨
    (∃ L2 : List En, L2.length ≤ L.length + 1 ∧ Calls Try.prog 23 #[.pointer (some ⟨x, 0, none⟩), v, .int .i64 k] wr (fun y w1 => y = .returned (.int .i64 0) ∧ Below w.heap.size w w1 ∧
      Calls Try.prog 33 #[.pointer (some ⟨s, 0, none⟩), v, .int .i64 k] w1.drew (fun y w2 => y = .returned (.int .i64 0) ∧ Below w.heap.size w w2 ∧ ∃ S', St9 w.heap.size x b s L2 L2 S' w2))) := by
  cases xs with
  | nil =>
    refine .inl ⟨2, rfl, (st_no st R v k (hx.below hb)).mono ?_⟩
    rintro y w1 ⟨rfl, hb1, S', st1⟩
    exact ⟨rfl, hb.trans hb1, S', st1⟩
  | cons u q =>
    have hc := st_add1 st R v (u :: q) k (hx.below hb) (by simp) hw hk hl
    rcases addL_err (u :: q) k L with ha | ha | ha
    · rw [ha] at hc
      refine .inl ⟨2, rfl, hc.mono ?_⟩
      rintro y w1 ⟨rfl, hb1, S', st1⟩
      exact ⟨rfl, hb.trans hb1, S', st1⟩
    · rw [ha] at hc
      refine .inl ⟨10, rfl, hc.mono ?_⟩
      rintro y w1 ⟨rfl, hb1, S', st1⟩
      exact ⟨rfl, hb.trans hb1, S', st1⟩
    · obtain ⟨L2, hL2⟩ : ∃ L2, addL (u :: q) k L = (L2, 0) := ⟨_, Prod.ext rfl ha⟩
      rw [hL2] at hc
      have hlen := addL_len9 (u :: q) k L
      rw [hL2] at hlen
      refine .inr ⟨L2, hlen, hc.mono ?_⟩
      rintro y w1 ⟨rfl, hb1, S', st1⟩
      have hbb := hb.trans hb1
      have hd := Below.drew (Below.refl w1.heap.size w1)
      have st2 := st1.later hd
      refine ⟨rfl, hbb, (st_add2 st2 R v (u :: q) k ((hx.below hbb).below hd) hl hL2).mono ?_⟩
      rintro y w2 ⟨rfl, hb2, st3⟩
      exact ⟨rfl, (hbb.trans (hd.mono st1.size)).trans hb2, S', st3⟩

theorem cntG_nil (K : List V → ByteArray) (L : List En) : cntG K L [] = 0 := by simp [cntG]
theorem cntG_le (K : List V → ByteArray) (L : List En) (G : List ByteArray) : cntG K L G ≤ L.length := List.length_filter_le _ _
theorem KeysOf.len {K : List V → ByteArray} {L : List En} {i : Nat} {G : List ByteArray} (h : KeysOf K L i G) : G.length ≤ L.length := by
  have := nodup_len G (L.map fun e => K e.1) h.1 (fun z hz => by
    obtain ⟨e, he, rfl⟩ := (h.2 z).1 hz
    exact List.mem_map.2 ⟨e, List.mem_of_mem_take he, rfl⟩)
  simpa using this
theorem rows_first {w : World} {Q : Nat → Prop} {A : Option Addr} {n c : Nat} {k : Int} {f : Bool} {m : Int} {t : ByteArray} {r : List V} (h : IsRow w Q (.slice A n c) (⟨k, f, m, t⟩ :: r)) :
    ∃ a : Addr, A = some a ∧ w.cell? a = some (.int .i64 k) ∧ w.cell? { block := a.block, off := a.off + 1 } = some (.bool f) ∧ w.cell? { block := a.block, off := a.off + 2 } = some (.int .i64 m) ∧ w.cell? { block := a.block, off := a.off + 3 } = some (.string t) := by
  obtain ⟨_, A', c', e, _, h3⟩ := h
  injection e with e1
  subst e1
  obtain ⟨a, ha, _, hat⟩ := h3 0 _ rfl
  have hz : a.add (0 * 4) = a := by simp [Addr.add]
  rw [hz] at hat
  exact ⟨a, ha, hat⟩

set_option maxRecDepth 100000 in
set_option maxHeartbeats 4000000 in
theorem indexWhole_main (w : World) (A : Option Addr) (c : Nat) (es : List WE) (n : Nat) (hn : es.length = n) (hl : n ≤ 100) (hW : WeakE w A es) :
    Calls Try.prog 5 #[.slice A n c] w fun e w' => e = .returned (.bool true) ∧ Below w.heap.size w w' := by
  have hnew := i_new (some ⟨w.heap.size, 0, none⟩) [0] 1 1 (w.alloc (.cells #[.int .i64 0] 3)) rfl (fun h => by cases h) (by simp) (lit_ints6 w #[.int .i64 0] [0] w.heap.size rfl rfl) (by kernel_rfl)
  have HNEW := Lib.hid hnew
  have HWE := Lib.hid hW
  have HN := Lib.hid hn
  clear hnew hW hn
  go_enter Try.func5, Try.ntmps5
  go_wp2_with fail
  refine HNEW.out.mono ?_
  rintro e w1 ⟨hb1, x, b, rfl, hx, hb, D, A1, c1, hI⟩
  have hb0 : Below w.heap.size w w1 := (one_new w _).trans (hb1.mono (by simp))
  have hz := hb0.size
  rw [World.size_alloc] at hx hb
  have HST := Lib.hid (St9.new w w1 x b D A1 c1 hI (by omega) (by omega) hz)
  have HB1 := Lib.hid (hb0.trans ((one_new w1 (.cells #[.slice none 0 0] 43)).mono hz))
  clear hb1 hI hb0 hx hb
  go_wp2
  go_loopw [6] (fun i wr => ∃ (k : Nat) (L : List En) (S : List Sh), k ≤ n ∧ i = .int .i64 k ∧ L.length ≤ k ∧ St9 w.heap.size x b w1.heap.size L L S wr ∧ Below w.heap.size w wr) (fun i _ => n - (intOf i).toNat)
  case atStart => exact ⟨0, [], [], Nat.zero_le _, rfl, Nat.le_refl _, HST.out, HB1.out⟩
  case round =>
    obtain ⟨k, L, S, hk, rfl, hlk, hst, hbw⟩ := hrel
    have HS := Lib.hid hst
    have HBW := Lib.hid hbw
    clear hst hbw
    by_cases hkn : k < n
    · obtain ⟨e, he⟩ : ∃ e, es[k]? = some e := ⟨_, List.getElem?_eq_getElem (by rw [HN.out]; exact hkn)⟩
      obtain ⟨hok, a, rfl, hblt, c0, c1⟩ := HWE.out k e he
      obtain ⟨at1, cap, row, many⟩ := e
      obtain ⟨o1, o2, o3, o4, o5⟩ := hok
      dsimp only at o1 o2 o3 o4 o5
      have c0' : w.cell? (a.add (k * 2)) = some (.slice at1 row.length cap) := c0
      have H0 := Lib.hid c0'
      have H1 := Lib.hid c1
      have hcr0 := (HBW.out.cell (p := a.add (k * 2)) hblt).trans c0'
      have hcr1 := (HBW.out.cell (p := { block := (a.add (k * 2)).block, off := (a.add (k * 2)).off + 1 }) hblt).trans c1
      unfold maxLen at o1
      clear he c0 c0' c1
      by_cases h50 : 50 < row.length
      · clear o2 o3 o4 o5
        go_wp2_with fail
        refine (known6 _).mono ?_
        rintro e w2 ⟨rfl, hb2⟩
        have HB2 := Lib.hid (HBW.out.trans (hb2.mono HBW.out.size))
        clear hb2
        go_wp2
        go_ret
        exact ⟨rfl, HB2.out⟩
      · have hxr : IsRow w (fun _ => True) (.slice at1 row.length cap) row := ⟨by omega, at1, cap, rfl, o2, RowQ.of o3 fun _ _ => trivial⟩
        have hd := Below.drew (Below.refl wr.heap.size wr)
        have HC := round6 (HS.out.later hd) (HBW.out.trans (hd.mono HBW.out.size)) (by omega) _ _ row many hxr o5 o4
        clear o2 o3 o4 o5 hxr hd
        rcases HC with ⟨r, hr, HC⟩ | ⟨L2, hL2, HC⟩
        · have HC := Lib.hid HC
          go_wp2
          go_region_held3 (fun w' => w'.cell? (a.add (k * 2)) = some (.slice at1 row.length cap) ∧ w'.cell? { block := (a.add (k * 2)).block, off := (a.add (k * 2)).off + 1 } = some (.int .i64 many)) (go_keep)
            (first
            | (go_at_call 23; refine HC.out.mono ?_; rintro y w2 ⟨rfl, hb2, S2, st2⟩; have hk0 := (hb2.cell (p := a.add (k * 2)) hblt).trans H0.out; have hk1 := (hb2.cell (p := { block := (a.add (k * 2)).block, off := (a.add (k * 2)).off + 1 }) hblt).trans H1.out))
          go_wp2
          go_roundw
          case rel => exact ⟨k + 1, L, S2, by omega, by go_num, by omega, st2, hb2⟩
          case measure => simp [intOf]; omega
        · have HC := Lib.hid HC
          have HL2 := Lib.hid hL2
          clear hL2
          go_wp2
          go_region_held3 (fun w' => w'.cell? (a.add (k * 2)) = some (.slice at1 row.length cap) ∧ w'.cell? { block := (a.add (k * 2)).block, off := (a.add (k * 2)).off + 1 } = some (.int .i64 many)) (go_keep)
            (first
            | (go_at_call 23; refine HC.out.mono ?_; rintro y w2 ⟨rfl, hb2, hc2⟩; have hk0 := (hb2.cell (p := a.add (k * 2)) hblt).trans H0.out; have hk1 := (hb2.cell (p := { block := (a.add (k * 2)).block, off := (a.add (k * 2)).off + 1 }) hblt).trans H1.out; have HC2 := Lib.hid hc2; clear hc2))
          go_wp2
          go_region_held3 (fun w' => w'.cell? (a.add (k * 2)) = some (.slice at1 row.length cap) ∧ w'.cell? { block := (a.add (k * 2)).block, off := (a.add (k * 2)).off + 1 } = some (.int .i64 many)) (go_keep)
            (first
            | (go_at_call 33; refine HC2.out.mono ?_; rintro y w3 ⟨rfl, hb3, S3, st3⟩; have hm0 := (hb3.cell (p := a.add (k * 2)) hblt).trans H0.out; have hm1 := (hb3.cell (p := { block := (a.add (k * 2)).block, off := (a.add (k * 2)).off + 1 }) hblt).trans H1.out))
          go_wp2
          go_roundw
          case rel => exact ⟨k + 1, L2, S3, by omega, by go_num, by have := HL2.out; omega, st3, hb3⟩
          case measure => simp [intOf]; omega
    · obtain rfl : k = n := by omega
      have hLn : L.length ≤ 100 := by omega
      clear hlk hkn hk
      go_wp2
      go_loopw [7, 8, 9] (fun v u i wq => ∃ (k : Nat) (G : List ByteArray), k ≤ L.length ∧ i = .int .i64 k ∧ KeysOf K0 L k G ∧ v = .int .i64 (cntG K0 L G : Int) ∧ u = .int .i64 (G.length : Int) ∧ St9 w.heap.size x b w1.heap.size L L S wq ∧ Below w.heap.size w wq) (fun _ _ i _ => L.length - (intOf i).toNat)
      case atStart => exact ⟨0, [], Nat.zero_le _, rfl, KeysOf.nil K0 L, by rw [cntG_nil]; rfl, rfl, HS.out, HBW.out⟩
      case round =>
        obtain ⟨k, G, hk, rfl, hG, rfl, rfl, hst, hbw⟩ := hrel
        have HS := Lib.hid hst
        have HBW := Lib.hid hbw
        have HG := Lib.hid hG
        obtain ⟨-, -, Lp, cp, -, -, hbox, hent⟩ := hst.ref
        have cbx := hbox.cell
        have HEN := Lib.hid hent
        clear hst hbw hG hbox hent
        by_cases hkn : k < L.length
        · obtain ⟨e, he⟩ : ∃ e, L[k]? = some e := ⟨_, List.getElem?_eq_getElem hkn⟩
          have HE := Lib.hid he
          obtain ⟨a, rv, rfl, hrow, hblt, d0, d1, hcv⟩ := HEN.out.getC k e he
          obtain ⟨hne, hwide⟩ := HS.out.wide e (List.mem_of_getElem? he)
          obtain ⟨vk, vf, vn, vt, r, hvr⟩ : ∃ vk vf vn vt r, e.1 = ⟨vk, vf, vn, vt⟩ :: r := by
            cases h : e.1 with
            | nil => exact absurd h hne
            | cons v r => exact ⟨v.k, v.f, v.n, v.t, r, rfl⟩
          obtain ⟨hl1, A0, c0v, rfl, -, hrq⟩ := id hrow
          obtain ⟨_, _, _, hcc, hcap⟩ := hcv
          injection hcc with q1 q2 q3
          subst q1
          subst q2
          subst q3
          have hr2 := hrow
          rw [hvr] at hr2
          obtain ⟨a0, rfl, z0, z1, z2, z3⟩ := rows_first hr2
          have HRT := Lib.hid (rowAt_take hrq.at 1)
          have hpos : 1 ≤ e.1.length := by rw [hvr]; simp
          have hcap1 : 1 ≤ c0v := by omega
          clear hrow hr2 hrq hne hwide he
          have hme := List.mem_of_getElem? HE.out
          have hcnl := cntG_le K0 L G
          have hfl := fil_len K0 (K0 e.1) L
          have hgl := HG.out.len
          have HCN : ∃ cn, cntG K0 L G = cn := ⟨_, rfl⟩
          have HGL : ∃ gl, G.length = gl := ⟨_, rfl⟩
          obtain ⟨cn, hcn⟩ := HCN
          obtain ⟨gl, hgl2⟩ := HGL
          rw [hcn] at hcnl ⊢
          rw [hgl2] at hgl ⊢
          have HCN := Lib.hid hcn
          have HGL := Lib.hid hgl2
          clear hcn hgl2
          cases k with
          | zero =>
            have hno : ∀ f ∈ L.take 0, K0 f.1 ≠ K0 e.1 := fun f hf => by simp at hf
            have hza : a.add (0 * 2) = a := by simp [Addr.add]
            rw [hza] at d0 d1 hblt
            go_wp2
            go_quiet (fail)
            go_wp2_with fail
            refine (st_find (HS.out.later (below_drewN' (Below.refl _ _) _)) e hme (some a0) c0v (HRT.out.later (below_drewN' (Below.refl _ _) _))).mono ?_
            rintro y w2 ⟨F, c2, rfl, hE, hb2⟩
            have hb2' : Below wr.heap.size wr w2 := (below_drewN' (Below.refl wr.heap.size wr) _).trans (hb2.mono (below_drewN' (Below.refl wr.heap.size wr) _).size)
            have hf0 := fil_first K0 L 0 e HE.out hno
            obtain ⟨fl, hfl2⟩ : ∃ fl, (fil K0 (K0 e.1) L).length = fl + 1 := by
              have := (List.getElem?_eq_some_iff.1 hf0).1
              exact ⟨(fil K0 (K0 e.1) L).length - 1, by omega⟩
            obtain ⟨aF, rF, rfl, -, -, -, g1, -⟩ : ∃ aF rF, F = some aF ∧ IsRow w2 (Qm x b S) rF e.1 ∧ (aF.add (0 * 2)).block < w2.heap.size ∧ w2.cell? (aF.add (0 * 2)) = some rF ∧ w2.cell? { block := aF.block, off := aF.off + 1 } = some (.int .i64 e.2) ∧ True := by
              obtain ⟨aF, rF, h1, h2, h3, h4, h5⟩ := hE.get 0 e hf0
              have hz : aF.add (0 * 2) = aF := by simp [Addr.add]
              refine ⟨aF, rF, h1, h2, h3, h4, ?_, trivial⟩
              rw [hz] at h5
              exact h5
            have cbx2 := (hb2'.cell (p := ⟨w1.heap.size, 0, none⟩) (World.block_lt_of_cell? wr _ cbx)).trans cbx
            have d12 := (hb2'.cell (p := { block := a.block, off := a.off + 1 }) (World.block_lt_of_cell? wr _ d1)).trans d1
            have HB2 := Lib.hid hb2'
            have HFL := Lib.hid hfl2
            rw [hfl2] at hfl ⊢
            have hne2 : (e.2 != e.2) = false := by simp
            clear hE hb2 hb2' hf0 hfl2
            go_wp2
            go_quiet (fail)
            go_wp2
            go_roundw
            case rel => exact ⟨0 + 1, K0 e.1 :: G, by omega, by go_num, (HG.out.next HE.out hno).1, by rw [(HG.out.next HE.out hno).2, HCN.out, HFL.out]; go_num, by rw [List.length_cons, HGL.out]; go_num, HS.out.later (below_drewN' HB2.out _), HBW.out.trans ((below_drewN' HB2.out _).mono HBW.out.size)⟩
            case measure => simp [intOf]; omega
          | succ m =>
            obtain ⟨e', he'⟩ : ∃ e', L[m]? = some e' := ⟨_, List.getElem?_eq_getElem (by omega)⟩
            have HE' := Lib.hid he'
            obtain ⟨a', rv', ha', hrow', hblt', d0', d1', hcv'⟩ := HEN.out.getC m e' he'
            injection ha' with ha'
            subst ha'
            obtain ⟨hne', hwide'⟩ := HS.out.wide e' (List.mem_of_getElem? he')
            obtain ⟨uk, uf, un, ut, r', hvr'⟩ : ∃ vk vf vn vt r, e'.1 = ⟨vk, vf, vn, vt⟩ :: r := by
              cases h : e'.1 with
              | nil => exact absurd h hne'
              | cons v r => exact ⟨v.k, v.f, v.n, v.t, r, rfl⟩
            obtain ⟨hl1', A0', c0v', rfl, -, hrq'⟩ := id hrow'
            have hr2' := hrow'
            rw [hvr'] at hr2'
            obtain ⟨a0', rfl, y0, y1, y2, y3⟩ := rows_first hr2'
            have hpos' : 1 ≤ e'.1.length := by rw [hvr']; simp
            clear hrow' hr2' hrq' hne' hwide' he' hcv'
            have i1 : IntKind.i64.wrap ((m : Int) + 1 - 1) = (m : Int) := by
              rw [show (m : Int) + 1 - 1 = (m : Int) from by omega]
              exact IntWalk.i64_in _ (by omega)
            have i2 : m < L.length := by omega
            have i3 : ((m : Int)).toNat = m := by omega
            have i4 : ¬ ((m : Int) < 0) := by omega
            have i5 : (0 : Int) ≤ (m : Int) := by omega
            have i6 : (m : Int) < (L.length : Int) := by omega
            have i7 : IntKind.i64.wrap (m : Int) = (m : Int) := IntWalk.i64_in _ (by omega)
            have i8 : ((m : Int) + 1).toNat = m + 1 := by omega
            go_wp2
            rcases Bool.eq_false_or_eq_true (eqV ⟨vk, vf, vn, vt⟩ ⟨uk, uf, un, ut⟩) with hq | hq
            · go_quiet (fail)
              go_wp2
              go_roundw
              case rel => exact ⟨m + 1 + 1, G, by omega, by go_num, HG.out.skip HE.out ⟨e', List.mem_of_getElem? (i := m) (by rw [List.getElem?_take_of_lt (Nat.lt_succ_self m)]; exact HE'.out), by unfold K0; rw [hvr, hvr', (eqV_iff _ _).1 hq]; rfl⟩, by rw [HCN.out], by rw [HGL.out], HS.out.later (below_drewN' (Below.refl _ _) _), HBW.out.trans ((below_drewN' (Below.refl _ _) _).mono HBW.out.size)⟩
              case measure => simp [intOf]; omega
            · have hno := group_ne HS.out.good HS.out.wide m e' e ⟨uk, uf, un, ut⟩ ⟨vk, vf, vn, vt⟩ r' r HE'.out HE.out hvr' hvr (fun h => by rw [(eqV_iff _ _).2 h] at hq; cases hq)
              go_quiet (fail)
              go_wp2_with fail
              refine (st_find (HS.out.later (below_drewN' (Below.refl _ _) _)) e hme (some a0) c0v (HRT.out.later (below_drewN' (Below.refl _ _) _))).mono ?_
              rintro y w2 ⟨F, c2, rfl, hE, hb2⟩
              have hb2' : Below wr.heap.size wr w2 := (below_drewN' (Below.refl wr.heap.size wr) _).trans (hb2.mono (below_drewN' (Below.refl wr.heap.size wr) _).size)
              have hf0 := fil_first K0 L (m + 1) e HE.out hno
              obtain ⟨fl, hfl2⟩ : ∃ fl, (fil K0 (K0 e.1) L).length = fl + 1 := by
                have := (List.getElem?_eq_some_iff.1 hf0).1
                exact ⟨(fil K0 (K0 e.1) L).length - 1, by omega⟩
              obtain ⟨aF, rF, rfl, -, -, -, g1, -⟩ : ∃ aF rF, F = some aF ∧ IsRow w2 (Qm x b S) rF e.1 ∧ (aF.add (0 * 2)).block < w2.heap.size ∧ w2.cell? (aF.add (0 * 2)) = some rF ∧ w2.cell? { block := aF.block, off := aF.off + 1 } = some (.int .i64 e.2) ∧ True := by
                obtain ⟨aF, rF, h1, h2, h3, h4, h5⟩ := hE.get 0 e hf0
                have hz : aF.add (0 * 2) = aF := by simp [Addr.add]
                refine ⟨aF, rF, h1, h2, h3, h4, ?_, trivial⟩
                rw [hz] at h5
                exact h5
              have cbx2 := (hb2'.cell (p := ⟨w1.heap.size, 0, none⟩) (World.block_lt_of_cell? wr _ cbx)).trans cbx
              have d12 := (hb2'.cell (p := { block := (a.add ((m + 1) * 2)).block, off := (a.add ((m + 1) * 2)).off + 1 }) (World.block_lt_of_cell? wr _ d1)).trans d1
              have HB2 := Lib.hid hb2'
              have HFL := Lib.hid hfl2
              rw [hfl2] at hfl ⊢
              have hne2 : (e.2 != e.2) = false := by simp
              clear hE hb2 hb2' hf0 hfl2
              have j1 : (m : Int) + 1 < (L.length : Int) := by omega
              have j2 : ¬ ((m : Int) + 1 < 0) := by omega
              have j3 : (0 : Int) ≤ (m : Int) + 1 := by omega
              have j4 : m + 1 < L.length := by omega
              go_wp2
              go_quiet (fail)
              go_wp2
              go_roundw
              case rel => exact ⟨m + 1 + 1, K0 e.1 :: G, by omega, by go_num, (HG.out.next HE.out hno).1, by rw [(HG.out.next HE.out hno).2, HCN.out, HFL.out]; go_num, by rw [List.length_cons, HGL.out]; go_num, HS.out.later (below_drewN' HB2.out _), HBW.out.trans ((below_drewN' HB2.out _).mono HBW.out.size)⟩
              case measure => simp [intOf]; omega
        · obtain rfl : k = L.length := by omega
          obtain ⟨q1, q2⟩ := HG.out.all HS.out.inv HS.out.keys
          rw [q2, q1]
          clear q1 q2 HG
          go_wp2_with fail
          refine (st_len HS.out).mono ?_
          rintro y w2 ⟨rfl, hb2⟩
          have HS2 := Lib.hid (HS.out.later hb2)
          have HB2 := Lib.hid (HBW.out.trans (hb2.mono HBW.out.size))
          clear hb2
          go_wp2_with fail
          refine (st_keys HS2.out).mono ?_
          rintro y w3 ⟨rfl, rfl⟩
          go_wp2_with fail
          refine (known6 _).mono ?_
          rintro y w4 ⟨rfl, hb4⟩
          have HB4 := Lib.hid (HB2.out.trans (hb4.mono HB2.out.size))
          clear hb4
          go_wp2
          go_ret
          exact ⟨rfl, HB4.out⟩
end Go.Proofs.Ytgifkigamebofaa
