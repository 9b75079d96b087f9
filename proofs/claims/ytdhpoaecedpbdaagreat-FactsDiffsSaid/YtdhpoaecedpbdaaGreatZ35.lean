/-
  Rows of package facts at a relation of objects: their rows in order.
  At every store that stands.
  The document's Rows at a relation of objects: their rows in order. Rows of package facts of no store and no tree: none.
  At every store that stands.
-/
import Derived.Test.YtdhpoaecedpbdaaGreatZ17
import Derived.Test.YtdhpoaecedpbdaaGreatZ22
import Derived.Test.YtdhpoaecedpbdaaGreatZ31
import Derived.Test.YtdhpoaecedpbdaaGreatZ34
namespace Go.Proofs.YtdhpoaecedpbdaaGreat
section
open Go.RowKit

set_option maxRecDepth 100000 in
set_option maxHeartbeats 2000000 in
theorem f_relO (Q : Nat → Prop) (s b : Nat) (t : Option Addr) (os : List Ob) (last : Int) (KL : List Sc) (kd : ByteArray) (w : World) (hS : StoB w Q s b os last KL) (hg : GoodO os) (hsh : ∀ o ∈ os, o.c.length ≤ 900000) (hk : (kd.toList == [116, 101, 110, 97, 110, 116]) = false) :
    Calls Tryz.prog 10 #[.pointer (some ⟨s, 0, none⟩), .pointer t, .string kd] w fun e w' => ∃ v us, e = .returned v ∧ OwnG w' w.heap.size v us ∧ RwsQ w' (fun _ => True) us ((ofKind os kd).map rowO) ∧ Below w.heap.size w w' := by
  have HAL := Lib.hid (o_all Q s b os last KL kd w hS hg)
  have HSH := Lib.hid (fun o (ho : o ∈ ofKind os kd) => hsh o (List.mem_filter.1 ho).1)
  have HLE := Lib.hid (show (ofKind os kd).length ≤ 1000 by have := hg.few; have := List.length_filter_le (fun x : Ob => x.key.1.toList == kd.toList) os; unfold ofKind; omega)
  clear hS hg hsh
  go_enter Tryz.func10, Tryz.ntmps10
  go_wp2_with fail
  refine HAL.out.mono ?_
  rintro e w1 ⟨⟨v1, zs, rfl, ho1, hz1⟩, hb1⟩
  obtain ⟨A, c, rfl, -, -, hA⟩ := ho1.cells
  have HB1 := Lib.hid hb1
  have hzl := hz1.len
  obtain ⟨n, hn⟩ : ∃ n, zs.length = n := ⟨_, rfl⟩
  have HRW := Lib.hid (f_rowsO _ _ A n c zs (ofKind os kd) w1 hn (by have := HLE.out; omega) hA hz1 HSH.out)
  rw [hn]
  clear ho1 hA hz1 hb1 HAL hn hzl
  go_wp2_with fail
  refine HRW.out.mono ?_
  rintro e w2 ⟨v2, us, rfl, ho2, hr2, hb2⟩
  have HO2 := Lib.hid (ho2.lower HB1.out.size)
  have HR2 := Lib.hid hr2
  have HB2 := Lib.hid (HB1.out.trans (hb2.mono HB1.out.size))
  clear ho2 hr2 hb2
  go_wp2
  go_ret
  exact ⟨v2, us, rfl, HO2.out, HR2.out, HB2.out⟩
end
end Go.Proofs.YtdhpoaecedpbdaaGreat
namespace Go.Proofs.YtdhpoaecedpbdaaGreat
section
open Go.RowKit

set_option maxRecDepth 100000 in
set_option maxHeartbeats 4000000 in
theorem r_relO (Q : Nat → Prop) (r : Nat) (t : Option Addr) (A : Option Addr) (c : Nat) (os : List Ob) (last : Int) (KL : List Sc) (kd : ByteArray) (w : World) (hR : RefO w Q r A c os last KL) (hg : GoodO os) (hsh : ∀ o ∈ os, o.c.length ≤ 900000 ∧ Fit o.c ∧ o.key.2.1.size ≤ maxLen ∧ o.key.2.2.size ≤ maxLen) (hk : (kd.toList == [116, 101, 110, 97, 110, 116]) = false) :
    Calls Tryz.prog 11 #[.pointer (some ⟨r, 0, none⟩), .pointer t, .string kd] w fun e w' => ∃ v us, e = .returned v ∧ OwnG w' w.heap.size v us ∧ RwsQ w' (fun _ => True) us ((ofKind os kd).map rowO) ∧ Below w.heap.size w w' := by
  have HAL := Lib.hid (r_allO Q r A c os last KL kd w hR (by have := hg.few; omega))
  have HSH := Lib.hid (fun o (ho : o ∈ ofKind os kd) => hsh o (List.mem_filter.1 ho).1)
  have hle : (ofKind os kd).length ≤ 1000 := by have := hg.few; have := List.length_filter_le (fun x : Ob => x.key.1.toList == kd.toList) os; unfold ofKind; omega
  have HID := Lib.hid (rowsO_id hg.srt kd)
  obtain ⟨ks, hks⟩ : ∃ ks, ks = ofKind os kd := ⟨_, rfl⟩
  rw [← hks] at HAL HSH hle HID
  obtain ⟨ks', hks'⟩ : ∃ ks', ks' = ks := ⟨_, rfl⟩
  rw [← hks]
  clear hR hg hsh hks hks' ks'
  go_enter Tryz.func11, Tryz.ntmps11
  go_wp2_with fail
  refine HAL.out.mono ?_
  rintro e w1 ⟨⟨v1, zs, rfl, ho1, hz1⟩, hb1⟩
  obtain ⟨A1, c1, rfl, -, -, hA⟩ := ho1.cells
  have HA := Lib.hid (hA.imp (Q' := fun k => k < w1.heap.size) (fun k hk _ => hk))
  have HZ := Lib.hid hz1
  have HB1 := Lib.hid hb1
  have hzl := hz1.len
  obtain ⟨n, hn⟩ : ∃ n, zs.length = n := ⟨_, rfl⟩
  have HN := Lib.hid hn
  rw [hn] at hzl
  have HLN := Lib.hid hzl
  have hl : n ≤ 1000 := by omega
  have hsz1 := hb1.size
  rw [hn]
  clear ho1 hA hz1 hb1 HAL hn hzl hle
  go_wp2
  go_loopw [7, 10] (fun v i wr => ∃ (k : Nat) (us : List Value), k ≤ n ∧ i = .int .i64 k ∧ OwnG wr w1.heap.size v us ∧ RwsQ wr (fun j => some j ≠ v.ownBlock) us ((ks.take k).map rowO) ∧ Below w1.heap.size w1 wr) (fun _ i _ => n - (intOf i).toNat)
  case atStart => exact ⟨0, [], Nat.zero_le _, rfl, OwnG.nil _ _, trivial, Below.refl _ _⟩
  case round =>
    obtain ⟨k, us, hkn, rfl, hown, hen, hb⟩ := hrel
    have HO := Lib.hid hown
    have HEN := Lib.hid hen
    have HB := Lib.hid hb
    have hsz := hb.size
    have hul : us.length ≤ k := by
      rw [hen.len, List.length_map]
      exact List.length_take_le _ _
    by_cases h1 : k < n
    · obtain ⟨e, he⟩ : ∃ e, zs[k]? = some e := ⟨_, List.getElem?_eq_getElem (by rw [HN.out]; exact h1)⟩
      obtain ⟨o, ho, hek, hev, hrow⟩ := obR_get k e HZ.out he
      obtain ⟨a, rfl, c0, c1, c2, c3, c4⟩ := objs_get (HA.out.keep (fun j hj _ => hb.block j hj)) k e he
      obtain ⟨⟨k1, k2, k3⟩, v, u⟩ := e
      have htk : (ks.take (k + 1)).map rowO = (ks.take k).map rowO ++ [txV k2 :: txV k3 :: o.c] := by
        rw [List.take_add_one, ho]
        have hek : (k1, k2, k3) = o.key := hek
        simp [rowO, ← hek]
      have HTK := Lib.hid htk
      have hrs := (HSH.out o (List.mem_of_getElem? ho)).1
      obtain ⟨_, Ax, cx, hue, hux0, hrq⟩ := hrow
      have hue : u = .slice Ax o.c.length cx := hue
      subst hue
      dsimp only at c0 c1 c2 c3 c4
      obtain ⟨m, hm⟩ : ∃ m, o.c.length = m := ⟨_, rfl⟩
      obtain ⟨xs, hxs⟩ : ∃ xs, xs = o.c := ⟨_, rfl⟩
      rw [← hxs] at hm hrs hrq HTK
      rw [← hxs, hm] at c4
      rw [hm] at hrs
      have HM := Lib.hid hm.symm
      have HRA := Lib.hid (hrq.at.later hb)
      have HFO := Lib.hid (fun W (hW : Below wr.heap.size wr W) => r_objectF k1 k2 k3 v Ax m cx xs W HM.out hrs (HRA.out.later hW))
      clear he ho hek hev htk hb hux0 hrq hm hxs hown hen
      go_wp2_with fail
      refine (HFO.out _ (Below.refl _ _)).mono ?_
      rintro e w6 ⟨uv, rfl, hown6, hb6⟩
      have hb6' : Below wr.heap.size wr w6 := hb6
      have hs6 := hb6'.size
      have hu := IsRw.own (Q := fun k => wr.heap.size ≤ k) hown6 (by have := HM.out; simp; omega) (fun k hk => hk)
      have HU := Lib.hid hu
      have HB6 := Lib.hid hb6'
      have HO6 := Lib.hid (HO.out.below hb6')
      obtain ⟨A9, c9, m9, hm9, rfl⟩ : ∃ A9 c9 m9, (txV k2 :: txV k3 :: xs).length = m9 ∧ uv = .slice A9 m9 c9 := by
        obtain ⟨_, A9, c9, e, _⟩ := hu
        exact ⟨A9, c9, _, rfl, e⟩
      clear hown6 hb6 hb6' hu hm9
      go_wp2_with (at_builtin; go_must (refine wp_append_G _ rfl (.tmp 42) (.tmp 48) rfl w1.heap.size _ us [Value.slice A9 m9 c9] rfl (HO6.out.alloc _) _ 1 _ rfl rfl (lit_S w6 _ _) (by simp [Value.oneCell']) (by simp; omega) (by simp; omega) ?_; intro v7 w7 hown7 hb7 hg7 hor7))
      have hrw7 := rw_next HO.out HB6.out HEN.out HU.out rfl hg7 hor7
      have hb7' : Below w1.heap.size wr w7 := (HB6.out.mono hsz).trans (((one_new w6 _).mono (Nat.le_trans hsz hs6)).trans hb7)
      go_roundw
      case rel => exact ⟨k + 1, us ++ [Value.slice A9 m9 c9], by omega, by go_num, hown7, by rw [HTK.out]; exact hrw7, HB.out.trans hb7'⟩
      case measure => simp [intOf]; omega
    · obtain rfl : k = n := by omega
      have e : ks.take k = ks := List.take_of_length_le (by have := HLN.out; omega)
      rw [e] at hen
      obtain ⟨A0, cg, hv, hcg, hgc⟩ := hown.cells
      subst hv
      have hlen := hen.len
      rw [List.length_map, ← HLN.out] at hlen
      have hs := ref_sort _ A0 cg us (ks.map rowO) us.length wr (by rw [hlen, List.length_map, ← HLN.out]) (by omega) (hgc.imp (fun k hk h => hk)) hen (fun x hx => by
        obtain ⟨y, hy, rfl⟩ := List.mem_map.1 hx
        obtain ⟨_, f1, f2, f3⟩ := HSH.out y hy
        exact fit_tx f2 f3 f1)
      rw [HID.out] at hs
      have HS := Lib.hid hs
      clear hs hgc hlen hown hen hb e
      go_wp2_with fail
      refine HS.out.mono ?_
      rintro e w5 ⟨v, us5, rfl, hown5, hrw5, hb5⟩
      have HO5 := Lib.hid (hown5.lower (Nat.le_trans hsz1 hsz))
      have HR5 := Lib.hid (hrw5.imp (Q' := fun _ => True) (fun _ _ _ => trivial))
      have HB5 := Lib.hid (HB1.out.trans ((HB.out.trans (hb5.mono hsz)).mono hsz1))
      clear hown5 hrw5 hb5
      go_wp2
      go_ret
      exact ⟨_, us5, rfl, HO5.out, HR5.out, HB5.out⟩

set_option maxRecDepth 100000 in
set_option maxHeartbeats 2000000 in
theorem f_relNil (kd : ByteArray) (w : World) :
    Calls Tryz.prog 10 #[.pointer none, .pointer none, .string kd] w fun e w' => ∃ v, e = .returned v ∧ OwnG w' w.heap.size v [] ∧ Below w.heap.size w w' := by
  rcases Bool.eq_false_or_eq_true (kd.toList == [116, 101, 110, 97, 110, 116]) with hk | hk
  · have HRW := Lib.hid (f_rowsT none 0 0 [] w rfl (by omega) (fun j u hj => by simp [flatT] at hj))
    go_enter Tryz.func10, Tryz.ntmps10
    go_wp2_with fail
    refine (t_all_nil _).mono ?_
    rintro e w1 ⟨rfl, rfl⟩
    go_wp2_with fail
    refine HRW.out.mono ?_
    rintro e w2 ⟨v2, us, rfl, ho2, hr2, hb2⟩
    have hus : us = [] := List.length_eq_zero_iff.1 hr2.len
    subst hus
    have HO2 := Lib.hid ho2
    have HB2 := Lib.hid hb2
    clear ho2 hr2 hb2
    go_wp2
    go_ret
    exact ⟨v2, rfl, HO2.out, HB2.out⟩
  · have HRW := Lib.hid (f_rowsO (fun _ => True) (fun _ => True) none 0 0 [] [] w rfl (by omega) (fun j u hj => by simp [flatO] at hj) trivial (by simp))
    go_enter Tryz.func10, Tryz.ntmps10
    go_wp2_with fail
    refine (o_all_nil _ _).mono ?_
    rintro e w1 ⟨rfl, rfl⟩
    go_wp2_with fail
    refine HRW.out.mono ?_
    rintro e w2 ⟨v2, us, rfl, ho2, hr2, hb2⟩
    have hus : us = [] := List.length_eq_zero_iff.1 hr2.len
    subst hus
    have HO2 := Lib.hid ho2
    have HB2 := Lib.hid hb2
    clear ho2 hr2 hb2
    go_wp2
    go_ret
    exact ⟨v2, rfl, HO2.out, HB2.out⟩
end
end Go.Proofs.YtdhpoaecedpbdaaGreat
