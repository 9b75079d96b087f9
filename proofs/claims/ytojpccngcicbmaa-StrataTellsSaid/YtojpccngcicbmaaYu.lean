/-
  The program's Order answers the order of rules, or why there is none.
  No condition but that rules are few, and names no longer than they can be.
-/
import Derived.Test.YtojpccngcicbmaaYt
import Derived.Test.YtojpccngcicbmaaYo
namespace Go.Proofs.Ytojpccngcicbmaa
open Go.RowKit Go.Maps

set_option maxHeartbeats 1000000 in
theorem k_keys2 (b : Nat) (w : World) : Calls Try.prog 24 #[.map (some b)] w fun e w' => ∃ Bm, e = .returned (.func (.func 38) #[] #[.pointer (some ⟨Bm, 0, none⟩)]) ∧ w'.cell? ⟨Bm, 0, none⟩ = some (.map (some b)) ∧ Below w.heap.size w w' := by
  refine (k_keys b w).mono ?_
  rintro e w' ⟨rfl, rfl⟩
  exact ⟨_, rfl, new_cellT w _ _ 0, one_new w _⟩

theorem keys_len {S : List Mn} {l : List Rl} (hp : S.Pairwise fun a b => a.1 ≠ b.1) (hk : ∀ s, (findM S s).isSome = hasX s (nms l)) : S.length = (sortN (nms l)).length := by
  have hnd : (S.map (·.1)).Nodup := List.pairwise_map.2 hp
  have := ((List.perm_ext_iff_of_nodup hnd (srt_nodup (sortN_srt (nms l)))).2 fun s => by
    rw [sortN_mem, ← hasX_iff (ys := nms l), ← hk s]
    constructor
    · intro h
      obtain ⟨x, hx, rfl⟩ := List.mem_map.1 h
      cases hf : findM S x.1 with
      | none => exact absurd rfl (findM_none hf x hx)
      | some y => rfl
    · intro h
      obtain ⟨x, hx⟩ := Option.isSome_iff_exists.1 h
      obtain ⟨h1, h2⟩ := findM_some hx
      exact List.mem_map.2 ⟨x, h1, h2⟩).length_eq
  rwa [List.length_map] at this

/-- A call that answers texts of its own and an error's number. -/
def OrderedP (w : World) (r : List ByteArray × Int) (e : Ending) (w' : World) : Prop :=
  ∃ v, e = .returned (.tuple #[v, .int .i64 r.2]) ∧ OwnL w' w.heap.size v r.1 ∧ Below w.heap.size w w'

set_option maxRecDepth 100000 in
set_option maxHeartbeats 8000000 in
theorem p_Order (l : List Rl) (B : Option Addr) (d : Nat) (w : World) (hl : l.length ≤ 100) (hA : RlsAt w B l) (hsz : ∀ r ∈ l, r.nm.size ≤ maxLen) :
    Calls Try.prog 10 #[.slice B l.length d] w (OrderedP w (orderL l)) := by
  have HST := Lib.hid (p_stands l B d w hl hA hsz)
  have HSZ := Lib.hid hsz
  have H40 : Hid (∀ r ∈ l, r.asks.length ≤ 40) := Lib.hid fun r hr => by
    obtain ⟨i, hi, e⟩ := List.getElem_of_mem hr
    obtain ⟨_, _, _, _, h2, _⟩ := hA i r (e ▸ List.getElem?_eq_getElem hi)
    exact Nat.le_trans r.asks_len h2
  clear hA hsz
  by_cases hlong : 12 < l.length
  · have HO := Lib.hid (order_long hlong)
    have hd : decide ((12 : Int) < (l.length : Int)) = true := decide_eq_true (by omega)
    go_enter Try.func10, Try.ntmps10
    go_wp2
    go_ret2
    rw [HO.out]
    exact ⟨_, rfl, OwnL.nil _ _, Below.refl _ _⟩
  · have hd0 : decide ((12 : Int) < (l.length : Int)) = false := decide_eq_false (by omega)
    go_enter Try.func10, Try.ntmps10
    go_wp2_with fail
    refine HST.out.mono ?_
    rintro e w1 ⟨b, S, rfl, hmap, hb0, hkeys, hlists, hbel⟩
    have hon := one_new w1 (.cells #[.map (some b)] 49)
    have n0 := new_cellT w1 #[.map (some b)] 49 0
    have hmap2 := hmap.below hon
    obtain ⟨D, hown, hR⟩ := hmap2.map
    have hSz : Maps.size D = S.length := hR.2.2.1
    have hml : ∀ ty, (Builtin.len_ #[49] ty #[.map (some b)]).run Try.prog (w1.alloc (.cells #[.map (some b)] 49)) = .ok (.int .i64 S.length) (w1.alloc (.cells #[.map (some b)] 49)) := fun ty => hSz ▸ hown.len Try.underlying49 ty
    have hkl := keys_len hR.2.2.2 hkeys
    have HM := Lib.hid hmap2
    have HK := Lib.hid hkeys
    have HL := Lib.hid hlists
    have HB2 := Lib.hid (hbel.trans (hon.mono hbel.size))
    have hbs := hbel.size
    clear hmap hmap2 hown hR hSz hkeys hlists hbel hon
    by_cases hnd : (nms l).Nodup
    · have hSl : S.length = l.length := by rw [hkl, sortN_nodup hnd, nms_len]
      have htest : decide ((S.length : Int) < (l.length : Int)) = false := decide_eq_false (by omega)
      have HND := Lib.hid hnd
      have HSL := Lib.hid hSl
      clear hkl hnd
      have HGO := Lib.hid (order_goes hlong HND.out)
      have HK2 := Lib.hid (k_keys2 b (w1.alloc (.cells #[.map (some b)] 49)))
      go_wp2_with fail
      refine HK2.out.mono ?_
      rintro e w3 ⟨Bm, rfl, hBm, hb3⟩
      clear hml
      have hM3 := HM.out.below hb3
      obtain ⟨D, hown, hR⟩ := hM3.map
      have HKS := Lib.hid (k_sorted Bm b S.length D S l w3 (World.block_lt_of_cell? w3 _ hBm) hBm hown hR (by omega) HK.out)
      have hb30 := HB2.out.trans (hb3.mono HB2.out.size)
      have n3 := (hb3.cell (p := ⟨w1.heap.size, 0, none⟩) (by simp)).trans n0
      have HB3 := Lib.hid hb30
      have HM3 := Lib.hid hM3
      have HN3 := Lib.hid n3
      have hs3 := hb3.size
      rw [World.size_alloc] at hs3
      clear hM3 hown hR hb3 n0 hBm hb30
      go_wp2_with fail
      refine HKS.out.mono ?_
      rintro e w4 ⟨v0, rfl, hv0, hlen0, hb4⟩
      obtain ⟨A0, c0, hv00⟩ : ∃ A0 c0, v0 = .slice A0 l.length c0 := by
        obtain ⟨A0, c0, e⟩ := hv0.form
        exact ⟨A0, c0, by rw [e, hlen0, HSL.out]⟩
      subst hv00
      have bq := Boxed.new w4 26 (.slice A0 l.length c0)
      have HST0 := Lib.hid (show OrdSt w3.heap.size w4.heap.size [] (leftS l []) (.slice none 0 0) (.slice A0 l.length c0) (w4.alloc (.cells #[.slice A0 l.length c0] 26)) from ⟨bq, hb4.size, by rw [leftS_nil]; exact World.ownsRow.alloc hv0 _, OwnL.nil _ _, fun k hk => by cases hk⟩)
      have HB4 := Lib.hid (hb4.trans ((one_new w4 (.cells #[.slice A0 l.length c0] 26)).mono hb4.size))
      have hlen1 : (leftS l []).length = l.length := by rw [leftS_nil, hlen0, HSL.out]
      clear hv0 hlen0 hb4 bq
      go_wp2
      go_loopw [5, 6] (fun vo vq wr => ∃ (q : Nat) (out : List ByteArray) (vl : Value), vq = .pointer (some ⟨q, 0, none⟩) ∧ OrdSt w3.heap.size q out (leftS l out) vo vl wr ∧ orderGo l (leftS l out).length out = orderGo l l.length [] ∧ out.length + (leftS l out).length = l.length ∧ Below w3.heap.size w3 wr) (fun vo _ _ => l.length - lenOf vo)
      case atStart => exact ⟨_, [], .slice A0 l.length c0, rfl, HST0.out, by rw [hlen1], by rw [hlen1]; simp, HB4.out⟩
      case round =>
        obtain ⟨q, out, vl, rfl, hst, hgo, hsum, hb⟩ := hrel
        have HBr := Lib.hid hb
        have HGr := Lib.hid hgo
        have hszr := hb.size
        have hcm := (hb.cell (p := ⟨w1.heap.size, 0, none⟩) (by show w1.heap.size < w3.heap.size; omega)).trans HN3.out
        have hmap := HM3.out.below hb
        obtain ⟨A, c, hvl, _, _, ht, hg⟩ := hst.left.slice
        subst hvl
        have hbx := hst.box.cell
        have HSr := Lib.hid hst
        by_cases h0 : 0 < (leftS l out).length
        · obtain ⟨g, rfl⟩ := TxsAt.head ht hg h0
          have HIO := Lib.hid (i_order (some ⟨g, 0, none⟩) (leftS l out) c (by omega) w1.heap.size w.heap.size b S q (some ⟨g, 0, none⟩) (leftS l out) c wr ht hg ⟨hcm, hmap, ⟨hbx, ht, hg, by omega⟩⟩ (fun x hx => by
              obtain ⟨r, hr, rfl⟩ := List.mem_map.1 ((leftS_mem l out x).1 hx).1
              exact HSZ.out r hr) (fun x hx => by
              rw [HL.out x hx]
              have := LL_len l H40.out x.1 l.length
              omega))
          have ht0 : decide ((0 : Int) < ((leftS l out).length : Int)) = true := decide_eq_true (by omega)
          have HNX := Lib.hid (fun z => @first_next l HND.out S HK.out HL.out out z)
          have HTr := Lib.hid ht
          clear hgo hb hst hmap ht
          go_wp2_with fail
          refine HIO.out.mono ?_
          rintro e w5 ⟨z, rfl, hf, hb5⟩
          rcases HNX.out z hf with ⟨rfl, hnx⟩ | ⟨n, x, rfl, hxn, hnx⟩
          · have HO := Lib.hid (HGO.out.trans (HGr.out.symm.trans (orderGo_noneL h0 hnx)))
            have HBz := Lib.hid (HB3.out.trans ((HBr.out.trans (hb5.mono hszr)).mono (by have := HB3.out.size; omega)))
            clear hnx hf hb5
            go_wp2
            go_ret2
            rw [HO.out]
            exact ⟨_, rfl, OwnL.nil _ _, HBz.out⟩
          · have hst5 := HSr.out.below hb5
            have hbx5 := hst5.box.cell
            have hxc := (HTr.out.below hb5).at n x hxn
            have hnl := (List.getElem?_eq_some_iff.1 hxn).1
            have HGN := Lib.hid ((orderGo_nextL hxn hnx).symm.trans HGr.out)
            have HLN := Lib.hid (leftS_next l out n x hxn)
            have HST5 := Lib.hid hst5
            have HB5 := Lib.hid (HBr.out.trans (hb5.mono hszr))
            have hs5 := HB5.out.size
            obtain ⟨Ao, co, hvo⟩ := hst5.out.form
            subst hvo
            have i1 : decide ((n : Int) < 0) = false := decide_eq_false (by omega)
            have i2 : ¬ 9223372036854775807 < (n : Int) + 1 := by omega
            clear hf hb5 hst5 hnx hxn
            go_wp2_with (at_builtin; go_must (refine wp_append_L3 _ rfl (.tmp 29) (.tmp 34) rfl w3.heap.size _ out x rfl (World.ownsRow.alloc HST5.out.out _) ⟨w5.heap.size, 0, none⟩ 1 rfl (new_cellT _ _ _ 0) (by omega) (by simp; omega) ?_; intro v6 w6 hown6 hb6 hg6 hor6; have hst6 := HST5.out.mid hown6 hg6 hor6; have hbx6 := hst6.box.cell; have HST6 := Lib.hid hst6; have HB6 := Lib.hid ((HB5.out.trans ((one_new w5 _).mono hs5)).trans hb6); obtain ⟨A6, c6, hv6⟩ := hown6.form; rw [List.length_append, List.length_singleton] at hv6; subst hv6; clear hown6 hb6 hg6 hor6 hst6))
            have HD := Lib.hid (p_delete w3.heap.size n (.slice (some ⟨g, 0, none⟩) (leftS l out).length c) (leftS l out) w6 HST6.out.left hnl (by omega) HB6.out.size)
            refine HD.out.mono ?_
            rintro e w7 ⟨v7, rfl, hown7, hv7, hg7, hb7⟩
            have hlast := HST6.out.last hown7 hv7 hg7 HB6.out.size
            have HB7 := Lib.hid (HB6.out.trans hb7)
            obtain ⟨A7, c7, hv7'⟩ := hown7.form
            subst hv7'
            obtain ⟨b7, b8, hst9⟩ := hlast
            have q7 := b7.cell
            have f7 := b7.frozen
            have q8 := b8.cell
            have HST9 := Lib.hid hst9
            have HB8 := Lib.hid (HB7.out.setCell (p := ⟨q, 0, none⟩) HST6.out.qn (.slice A7 ((leftS l out).eraseIdx n).length c7))
            have HB9 := Lib.hid (HB8.out.alloc HB8.out.size (.cells #[.slice A7 ((leftS l out).eraseIdx n).length c7] 26))
            clear hown7 hv7 hg7 hb7 b7 b8 hst9 hxc hbx5 hbx6
            go_wp2
            go_roundw
            case rel =>
              refine ⟨_, out ++ [x], .slice A7 ((leftS l out).eraseIdx n).length c7, rfl, by rw [HLN.out]; exact HST9.out, HGN.out, ?_, HB9.out⟩
              rw [HLN.out, List.length_eraseIdx, if_pos hnl, List.length_append, List.length_singleton]
              omega
            case measure =>
              show l.length - (out.length + 1) < l.length - out.length
              omega
        · have hz : (leftS l out).length = 0 := by omega
          have HO := Lib.hid (HGO.out.trans (hgo.symm.trans (by rw [hz]; rfl : orderGo l (leftS l out).length out = (out, 0))))
          have ht0 : decide ((0 : Int) < ((leftS l out).length : Int)) = false := decide_eq_false (by omega)
          have HOUT := Lib.hid (hst.out.lower (show w.heap.size ≤ w3.heap.size from by have := HB3.out.size; omega))
          have HBz := Lib.hid (HB3.out.trans (HBr.out.mono HB3.out.size))
          clear hgo hb hst hmap ht hz
          go_wp2
          go_ret2
          rw [HO.out]
          exact ⟨_, rfl, HOUT.out, HBz.out⟩
    · have hSl : S.length < l.length := by rw [hkl, ← nms_len l]; exact sortN_twice hnd
      have htest : decide ((S.length : Int) < (l.length : Int)) = true := decide_eq_true (by omega)
      have HO := Lib.hid (order_twice hlong hnd)
      clear hkl hnd
      go_wp2
      go_ret2
      rw [HO.out]
      exact ⟨_, rfl, OwnL.nil _ _, HB2.out⟩
end Go.Proofs.Ytojpccngcicbmaa
