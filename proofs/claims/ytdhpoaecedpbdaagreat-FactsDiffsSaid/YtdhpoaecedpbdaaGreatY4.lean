/-
  The document's Rows, as in Fah and Fai, and that the rows lie in memory of the call's own.
  At every tree and store that stand.
  The document's Diff of layer 10: for each relation once, the rows that are in one of the states alone, in order.
  At lists of at most 20 relations.
-/
import Derived.Test.YtdhpoaecedpbdaaGreatY3
import Derived.Test.YtdhpoaecedpbdaaGreatZ35
import Derived.Test.YtdhpoaecedpbdaaGreatZ49
namespace Go.Proofs.YtdhpoaecedpbdaaGreat
section
open Go.RowKit

theorem rw_next2 {h : Nat} {wr w2 w3 w7 : World} {v v' u : Value} {us : List Value} {pre : List (List V)} {x : List V} {o : Obj} (hh : h ≤ wr.heap.size) (hown : OwnG wr h v us) (hb : Below wr.heap.size wr w2)
    (hen : RwsQ wr (fun k => some k ≠ v.ownBlock ∧ h ≤ k) us pre) (hu : IsRw w2 (fun k => wr.heap.size ≤ k) u x) (e3 : w3 = w2.alloc o) (hg : w3.grownBy w7 v.ownBlock) (hor : v'.ownBlock = v.ownBlock ∨ v'.ownBlock = some w3.heap.size) :
    RwsQ w7 (fun k => some k ≠ v'.ownBlock ∧ h ≤ k) (us ++ [u]) (pre ++ [x]) := by
  subst e3
  have hlt : ∀ k, v.ownBlock = some k → k < wr.heap.size := fun k hk => (World.ownsRow.lt hown k hk).2
  have hs := hb.size
  have key : ∀ k, k < w2.heap.size → some k ≠ v.ownBlock → some k ≠ v'.ownBlock := by
    intro k hk hkv
    rcases hor with h | h
    · rw [h]
      exact hkv
    · rw [h, World.size_alloc]
      intro e
      injection e with e
      omega
  have h1 : RwsQ w2 (fun k => (some k ≠ v.ownBlock ∧ h ≤ k) ∧ some k ≠ v'.ownBlock) (us ++ [u]) (pre ++ [x]) := by
    refine RwsQ.append (RwsQ.imp (fun k hk h => ⟨h, key k hk h.1⟩) (RwsQ.keep (Below.keepQ hb _) hen)) ⟨hu.imp (fun k hk h => ?_), trivial⟩
    have hkv : some k ≠ v.ownBlock := fun e => by have := hlt k e.symm; omega
    exact ⟨⟨hkv, by omega⟩, key k hk hkv⟩
  refine RwsQ.imp (fun k _ h => ⟨h.2, h.1.2⟩) (RwsQ.keep ?_ h1)
  intro k hk hlt3
  rw [hg.block k (by simp; omega) (fun e => hk.1.1 (by rw [e])), Below.heap_alloc _ _ _ hlt3]

set_option maxRecDepth 100000 in
set_option maxHeartbeats 4000000 in
theorem r_relT2 (s : Option Addr) (q r : Nat) (v0 : Value) (L : List Tn) (w : World) (hR : RefB w q r v0 L) (hS : SrtT L) (hl : L.length ≤ 1000) (hsz : ∀ x ∈ L, x.1.size ≤ maxLen ∧ x.2.size ≤ maxLen) :
    Calls Tryz.prog 11 #[.pointer s, .pointer (some ⟨r, 0, none⟩), .string tenB] w fun e w' => ∃ v us, e = .returned v ∧ OwnG w' w.heap.size v us ∧ RwsQ w' (fun k => w.heap.size ≤ k) us (L.map rowT) ∧ Below w.heap.size w w' := by
  have hrl := hR.lt
  have C0 := Lib.hid (show w.cell? ⟨r, 0, none⟩ = some v0 from cell_of_row w r 0 _ _ _ hR.1)
  obtain ⟨A, c, rfl, -, -, hA, -⟩ := hR.2.slice
  have HA := Lib.hid hA
  have HSZ := Lib.hid hsz
  have HID := Lib.hid (rowsT_id hS)
  obtain ⟨n, hn⟩ : ∃ n, L.length = n := ⟨_, rfl⟩
  have HN := Lib.hid hn
  rw [hn] at hl C0
  clear hA hR hn hsz hS
  unfold tenB
  go_enter Tryz.func11, Tryz.ntmps11
  go_wp2
  go_loopw [7, 8] (fun v i wr => ∃ (k : Nat) (us : List Value), k ≤ n ∧ i = .int .i64 k ∧ OwnG wr w.heap.size v us ∧ RwsQ wr (fun j => some j ≠ v.ownBlock ∧ w.heap.size ≤ j) us ((L.take k).map rowT) ∧ Below w.heap.size w wr) (fun _ i _ => n - (intOf i).toNat)
  case atStart => exact ⟨0, [], Nat.zero_le _, rfl, OwnG.nil _ _, trivial, Below.refl _ _⟩
  case round =>
    obtain ⟨k, us, hk, rfl, hown, hen, hb⟩ := hrel
    have HO := Lib.hid hown
    have HEN := Lib.hid hen
    have HB := Lib.hid hb
    have hsz := hb.size
    have c0 := (hb.cell (p := ⟨r, 0, none⟩) hrl).trans C0.out
    have hul : us.length ≤ k := by
      rw [hen.len, List.length_map]
      exact List.length_take_le _ _
    by_cases h1 : k < n
    · obtain ⟨⟨xa, xb⟩, hx⟩ : ∃ x, L[k]? = some x := ⟨_, List.getElem?_eq_getElem (by rw [HN.out]; exact h1)⟩
      obtain ⟨a, rfl, c1, c2⟩ := (HA.out.below hb).get2 k _ hx
      have htk : (L.take (k + 1)).map rowT = (L.take k).map rowT ++ [[txV xa, txV xb]] := by
        rw [List.take_add_one, hx]
        simp [rowT]
      have HTK := Lib.hid htk
      have HFT := Lib.hid (fun W => r_tenantF xa xb W)
      dsimp only at c1 c2
      clear hx htk hb hown hen
      go_wp2_with fail
      refine (HFT.out _).mono ?_
      rintro e w6 ⟨uv, rfl, hown6, hb6⟩
      have hb6' : Below wr.heap.size wr w6 := hb6
      have hs6 := hb6'.size
      have hu := IsRw.own (Q := fun k => wr.heap.size ≤ k) hown6 (by simp) (fun k hk => hk)
      have HU := Lib.hid hu
      have HB6 := Lib.hid hb6'
      have HO6 := Lib.hid (HO.out.below hb6')
      obtain ⟨A9, c9, rfl⟩ : ∃ A9 c9, uv = .slice A9 2 c9 := by
        obtain ⟨_, A9, c9, e, _⟩ := hu
        exact ⟨A9, c9, e⟩
      clear hown6 hb6 hb6' hu
      go_wp2_with (at_builtin; go_must (refine wp_append_G _ rfl (.tmp 22) (.tmp 31) rfl w.heap.size _ us [Value.slice A9 2 c9] rfl (HO6.out.alloc _) _ 1 _ rfl rfl (lit_S w6 _ _) (by simp [Value.oneCell']) (by simp; omega) (by simp; omega) ?_; intro v7 w7 hown7 hb7 hg7 hor7))
      have hrw7 := rw_next2 hsz HO.out HB6.out HEN.out HU.out rfl hg7 hor7
      have hb7' : Below w.heap.size wr w7 := (HB6.out.mono hsz).trans (((one_new w6 _).mono (Nat.le_trans hsz hs6)).trans hb7)
      go_roundw
      case rel => exact ⟨k + 1, us ++ [Value.slice A9 2 c9], by omega, by go_num, hown7, by rw [HTK.out]; exact hrw7, HB.out.trans hb7'⟩
      case measure => simp [intOf]; omega
    · obtain rfl : k = n := by omega
      have e : L.take k = L := List.take_of_length_le (by have := HN.out; omega)
      rw [e] at hen
      obtain ⟨A0, cg, hv, hcg, hgc⟩ := hown.cells
      subst hv
      have hlen := hen.len
      rw [List.length_map, HN.out] at hlen
      have hs := ref_sort _ A0 cg us (L.map rowT) us.length wr (by rw [hlen, List.length_map, HN.out]) (by omega) (hgc.imp (fun k hk h => hk)) hen (fun x hx => by
        obtain ⟨y, hy, rfl⟩ := List.mem_map.1 hx
        exact fit_tx (HSZ.out y hy).1 (HSZ.out y hy).2 (fun i v h => by simp at h))
      rw [HID.out] at hs
      have HS := Lib.hid hs
      clear hs hgc hlen hown hen hb e
      go_wp2_with fail
      refine HS.out.mono ?_
      rintro e w5 ⟨v, us5, rfl, hown5, hrw5, hb5⟩
      have HO5 := Lib.hid (hown5.lower hsz)
      have HR5 := Lib.hid (hrw5.imp (Q' := fun k => w.heap.size ≤ k) (fun k _ h => h.2))
      have HB5 := Lib.hid (HB.out.trans (hb5.mono hsz))
      clear hown5 hrw5 hb5
      go_wp2
      go_ret
      exact ⟨_, us5, rfl, HO5.out, HR5.out, HB5.out⟩
set_option maxRecDepth 100000 in
set_option maxHeartbeats 4000000 in
theorem r_relO2 (Q : Nat → Prop) (r : Nat) (t : Option Addr) (A : Option Addr) (c : Nat) (os : List Ob) (last : Int) (KL : List Sc) (kd : ByteArray) (w : World) (hR : RefO w Q r A c os last KL) (hg : GoodO os) (hsh : ∀ o ∈ os, o.c.length ≤ 900000 ∧ Fit o.c ∧ o.key.2.1.size ≤ maxLen ∧ o.key.2.2.size ≤ maxLen) (hk : (kd.toList == [116, 101, 110, 97, 110, 116]) = false) :
    Calls Tryz.prog 11 #[.pointer (some ⟨r, 0, none⟩), .pointer t, .string kd] w fun e w' => ∃ v us, e = .returned v ∧ OwnG w' w.heap.size v us ∧ RwsQ w' (fun k => w.heap.size ≤ k) us ((ofKind os kd).map rowO) ∧ Below w.heap.size w w' := by
  have HAL := Lib.hid (r_allO Q r A c os last KL kd w hR (by have := hg.few; omega))
  have HSH := Lib.hid (fun o (ho : o ∈ ofKind os kd) => hsh o (List.mem_filter.1 ho).1)
  have hle : (ofKind os kd).length ≤ 1000 := by have := hg.few; have := List.length_filter_le (fun x : Ob => x.key.1.toList == kd.toList) os; unfold ofKind; omega
  have HID := Lib.hid (rowsO_id hg.srt kd)
  obtain ⟨ks, hks⟩ : ∃ ks, ks = ofKind os kd := ⟨_, rfl⟩
  rw [← hks] at HAL HSH hle HID
  obtain ⟨ks', hks'⟩ : ∃ ks', ks' = ks := ⟨_, rfl⟩
  rw [← hks]
  clear hR hg hsh hks hks' ks'
  go_enter Tryz.func11, Tryz.ntmps11
  go_wp2_with fail
  refine HAL.out.mono ?_
  rintro e w1 ⟨⟨v1, zs, rfl, ho1, hz1⟩, hb1⟩
  obtain ⟨A1, c1, rfl, -, -, hA⟩ := ho1.cells
  have HA := Lib.hid (hA.imp (Q' := fun k => k < w1.heap.size) (fun k hk _ => hk))
  have HZ := Lib.hid hz1
  have HB1 := Lib.hid hb1
  have hzl := hz1.len
  obtain ⟨n, hn⟩ : ∃ n, zs.length = n := ⟨_, rfl⟩
  have HN := Lib.hid hn
  rw [hn] at hzl
  have HLN := Lib.hid hzl
  have hl : n ≤ 1000 := by omega
  have hsz1 := hb1.size
  rw [hn]
  clear ho1 hA hz1 hb1 HAL hn hzl hle
  go_wp2
  go_loopw [7, 10] (fun v i wr => ∃ (k : Nat) (us : List Value), k ≤ n ∧ i = .int .i64 k ∧ OwnG wr w1.heap.size v us ∧ RwsQ wr (fun j => some j ≠ v.ownBlock ∧ w1.heap.size ≤ j) us ((ks.take k).map rowO) ∧ Below w1.heap.size w1 wr) (fun _ i _ => n - (intOf i).toNat)
  case atStart => exact ⟨0, [], Nat.zero_le _, rfl, OwnG.nil _ _, trivial, Below.refl _ _⟩
  case round =>
    obtain ⟨k, us, hkn, rfl, hown, hen, hb⟩ := hrel
    have HO := Lib.hid hown
    have HEN := Lib.hid hen
    have HB := Lib.hid hb
    have hsz := hb.size
    have hul : us.length ≤ k := by
      rw [hen.len, List.length_map]
      exact List.length_take_le _ _
    by_cases h1 : k < n
    · obtain ⟨e, he⟩ : ∃ e, zs[k]? = some e := ⟨_, List.getElem?_eq_getElem (by rw [HN.out]; exact h1)⟩
      obtain ⟨o, ho, hek, hev, hrow⟩ := obR_get k e HZ.out he
      obtain ⟨a, rfl, c0, c1, c2, c3, c4⟩ := objs_get (HA.out.keep (fun j hj _ => hb.block j hj)) k e he
      obtain ⟨⟨k1, k2, k3⟩, v, u⟩ := e
      have htk : (ks.take (k + 1)).map rowO = (ks.take k).map rowO ++ [txV k2 :: txV k3 :: o.c] := by
        rw [List.take_add_one, ho]
        have hek : (k1, k2, k3) = o.key := hek
        simp [rowO, ← hek]
      have HTK := Lib.hid htk
      have hrs := (HSH.out o (List.mem_of_getElem? ho)).1
      obtain ⟨_, Ax, cx, hue, hux0, hrq⟩ := hrow
      have hue : u = .slice Ax o.c.length cx := hue
      subst hue
      dsimp only at c0 c1 c2 c3 c4
      obtain ⟨m, hm⟩ : ∃ m, o.c.length = m := ⟨_, rfl⟩
      obtain ⟨xs, hxs⟩ : ∃ xs, xs = o.c := ⟨_, rfl⟩
      rw [← hxs] at hm hrs hrq HTK
      rw [← hxs, hm] at c4
      rw [hm] at hrs
      have HM := Lib.hid hm.symm
      have HRA := Lib.hid (hrq.at.later hb)
      have HFO := Lib.hid (fun W (hW : Below wr.heap.size wr W) => r_objectF k1 k2 k3 v Ax m cx xs W HM.out hrs (HRA.out.later hW))
      clear he ho hek hev htk hb hux0 hrq hm hxs hown hen
      go_wp2_with fail
      refine (HFO.out _ (Below.refl _ _)).mono ?_
      rintro e w6 ⟨uv, rfl, hown6, hb6⟩
      have hb6' : Below wr.heap.size wr w6 := hb6
      have hs6 := hb6'.size
      have hu := IsRw.own (Q := fun k => wr.heap.size ≤ k) hown6 (by have := HM.out; simp; omega) (fun k hk => hk)
      have HU := Lib.hid hu
      have HB6 := Lib.hid hb6'
      have HO6 := Lib.hid (HO.out.below hb6')
      obtain ⟨A9, c9, m9, hm9, rfl⟩ : ∃ A9 c9 m9, (txV k2 :: txV k3 :: xs).length = m9 ∧ uv = .slice A9 m9 c9 := by
        obtain ⟨_, A9, c9, e, _⟩ := hu
        exact ⟨A9, c9, _, rfl, e⟩
      clear hown6 hb6 hb6' hu hm9
      go_wp2_with (at_builtin; go_must (refine wp_append_G _ rfl (.tmp 42) (.tmp 48) rfl w1.heap.size _ us [Value.slice A9 m9 c9] rfl (HO6.out.alloc _) _ 1 _ rfl rfl (lit_S w6 _ _) (by simp [Value.oneCell']) (by simp; omega) (by simp; omega) ?_; intro v7 w7 hown7 hb7 hg7 hor7))
      have hrw7 := rw_next2 hsz HO.out HB6.out HEN.out HU.out rfl hg7 hor7
      have hb7' : Below w1.heap.size wr w7 := (HB6.out.mono hsz).trans (((one_new w6 _).mono (Nat.le_trans hsz hs6)).trans hb7)
      go_roundw
      case rel => exact ⟨k + 1, us ++ [Value.slice A9 m9 c9], by omega, by go_num, hown7, by rw [HTK.out]; exact hrw7, HB.out.trans hb7'⟩
      case measure => simp [intOf]; omega
    · obtain rfl : k = n := by omega
      have e : ks.take k = ks := List.take_of_length_le (by have := HLN.out; omega)
      rw [e] at hen
      obtain ⟨A0, cg, hv, hcg, hgc⟩ := hown.cells
      subst hv
      have hlen := hen.len
      rw [List.length_map, ← HLN.out] at hlen
      have hs := ref_sort _ A0 cg us (ks.map rowO) us.length wr (by rw [hlen, List.length_map, ← HLN.out]) (by omega) (hgc.imp (fun k hk h => hk)) hen (fun x hx => by
        obtain ⟨y, hy, rfl⟩ := List.mem_map.1 hx
        obtain ⟨_, f1, f2, f3⟩ := HSH.out y hy
        exact fit_tx f2 f3 f1)
      rw [HID.out] at hs
      have HS := Lib.hid hs
      clear hs hgc hlen hown hen hb e
      go_wp2_with fail
      refine HS.out.mono ?_
      rintro e w5 ⟨v, us5, rfl, hown5, hrw5, hb5⟩
      have HO5 := Lib.hid (hown5.lower (Nat.le_trans hsz1 hsz))
      have HR5 := Lib.hid (hrw5.imp (Q' := fun k => w.heap.size ≤ k) (fun k _ h => Nat.le_trans hsz1 h.2))
      have HB5 := Lib.hid (HB1.out.trans ((HB.out.trans (hb5.mono hsz)).mono hsz1))
      clear hown5 hrw5 hb5
      go_wp2
      go_ret
      exact ⟨_, us5, rfl, HO5.out, HR5.out, HB5.out⟩
end
end Go.Proofs.YtdhpoaecedpbdaaGreat
namespace Go.Proofs.YtdhpoaecedpbdaaGreat
section
open Go.RowKit Go.Maps

def RowsPostG (w : World) (xs : List (List V)) (e : Ending) (w' : World) : Prop := ∃ v us, e = .returned v ∧ OwnG w' w.heap.size v us ∧ RwsQ w' (fun k => w.heap.size ≤ k) us xs ∧ Below w.heap.size w w'
/-- Rows as they can be, in order, each once. -/
def RowsOk (xs : List (List V)) : Prop := xs.length ≤ 1000 ∧ Ne xs ∧ RightAll xs ∧ SrtR xs
def RowsAreD (w : World) (a1 a2 : Value) (R : ByteArray → List (List V)) : Prop := ∀ W rel, Below w.heap.size w W → RowsOk (R rel) ∧ Calls Tryz.prog 11 #[a1, a2, .string rel] W (RowsPostG W (R rel))
theorem right_tx {s : ByteArray} (h : s.size ≤ 60) : rightV (txV s) = true := by
  unfold rightV txV
  simp
  exact h
theorem rowsW_ok {os : List Ob} {L : List Tn} (hg : GoodO os) (hm : May os) (hL : GoodT L) (rel : ByteArray) : RowsOk (rowsW os L rel) := by
  refine ⟨by have := rowsW_len hg hL rel; omega, rowsW_ne hm rel, ?_, ?_⟩
  · intro x hx
    unfold rowsW at hx
    unfold rightR
    split at hx
    · obtain ⟨y, hy, rfl⟩ := List.mem_map.1 hx
      have h1 := right_tx (s := y.1) (by have := nameR_short (hL.nam y hy); omega)
      have h2 := right_tx (s := y.2) (by have := hL.par y hy; omega)
      simp [rowT, h1, h2]
    · obtain ⟨y, hy, rfl⟩ := List.mem_map.1 hx
      obtain ⟨h1, h2, h3, h4⟩ := hm.one (List.mem_filter.1 hy).1
      have h5 := right_tx (s := y.key.2.1) (by have := nameR_short h3; omega)
      have h6 := right_tx (s := y.key.2.2) (by have := nameR_short h4; omega)
      have h7 : decide ((rowO y).length ≤ 40) = true := by
        rw [decide_eq_true_eq]
        simp [rowO]
        omega
      rw [h7]
      unfold rowO
      rw [List.all_cons, List.all_cons, h5, h6, h2]
      rfl
  · unfold rowsW
    split
    · rw [← rowsT_id hL.srt]
      exact (sortL_facts _).1
    · rw [← rowsO_id hg.srt]
      exact (sortL_facts _).1
theorem r_rowsD (Q : Nat → Prop) (r q rt : Nat) (v0 : Value) (os : List Ob) (last : Int) (L : List Tn) (w : World) (hR : ∃ A c, RefO w Q r A c os last KL8) (hg : GoodO os) (hm : May os) (hT : RefB w q rt v0 L) (hL : GoodT L) :
    RowsAreD w (.pointer (some ⟨r, 0, none⟩)) (.pointer (some ⟨rt, 0, none⟩)) (rowsW os L) := by
  intro W rel hW
  refine ⟨rowsW_ok hg hm hL rel, ?_⟩
  by_cases h : rel = tenB
  · subst h
    unfold rowsW
    rw [if_pos rfl]
    exact r_relT2 _ q rt v0 L W (hT.below hW) hL.srt (by have := hL.few; omega) (fun x hx => ⟨by have := nameR_short (hL.nam x hx); unfold maxLen; omega, by have := hL.par x hx; unfold maxLen; omega⟩)
  · unfold rowsW
    rw [if_neg h]
    obtain ⟨A, c, hR⟩ := hR
    exact r_relO2 Q r _ A c os last KL8 rel W (hR.below hW) hg (fun o ho => by
      obtain ⟨h1, h2, h3, h4⟩ := hm.one ho
      have h5 := nameR_short h3
      have h6 := nameR_short h4
      exact ⟨by omega, right_fits h2, by unfold maxLen; omega, by unfold maxLen; omega⟩) (not_tenB h)

theorem hasX_take (l : List ByteArray) (j : Nat) (x s : ByteArray) (h : l[j]? = some x) : hasX s (l.take (j + 1)) = (hasX s (l.take j) || (x.toList == s.toList)) := by
  rw [List.take_add_one, h]
  exact hasX_snoc _ _ _
theorem OwnK.lower {w : World} {base b2 : Nat} {v : Value} {xs : List CE} (h : OwnK w base v xs) (hb : b2 ≤ base) : OwnK w b2 v xs := by
  refine ⟨h.1, ?_⟩
  rcases h.2 with hn | ⟨g, cap, cur, hv, hg, hh, r⟩
  · exact Or.inl hn
  · exact Or.inr ⟨g, cap, cur, hv, Nat.le_trans hb hg, hh, r⟩
theorem chgOf_dL {R1 R2 : ByteArray → List (List V)} {r : ByteArray} (h1 : RowsOk (R1 r)) (h2 : RowsOk (R2 r)) : chgOf R1 R2 r = (dL (R1 r) (R2 r)).map fun e => (r, e) := by
  unfold chgOf
  rw [netL_dL h1.2.2.2 h2.2.2.2 h1.2.2.1 h2.2.2.1 h1.1 h2.1]
/-- The changes of the first k of the rows. -/
def dK (a b : List (List V)) (k : Nat) : List En := (((sortL (a ++ b)).take k).filter fun x => hasR a x != hasR b x).map fun x => (x, if hasR a x = true then -1 else 1)
theorem dK_succ {a b : List (List V)} {k : Nat} {x : List V} (h : (sortL (a ++ b))[k]? = some x) : dK a b (k + 1) = dK a b k ++ (if (hasR a x != hasR b x) = true then [(x, if hasR a x = true then (-1 : Int) else 1)] else []) := by
  unfold dK
  rw [List.take_add_one, h, List.filter_append, List.map_append]
  congr 1
  simp only [Option.toList_some, List.filter_cons, List.filter_nil]
  split <;> rfl
theorem dK_all (a b : List (List V)) : dK a b (sortL (a ++ b)).length = dL a b := by
  unfold dK dL
  rw [List.take_length]
theorem dK_len (a b : List (List V)) (k : Nat) : (dK a b k).length ≤ k := by
  unfold dK
  rw [List.length_map]
  exact Nat.le_trans (List.length_filter_le _ _) (List.length_take_le _ _)
theorem chg_next2 {n0 n1 : Nat} {wr w3 w7 : World} {v v' : Value} {cs : List CE} {pre : List Ch} {c : CE} {d : Ch} {o : Obj}
    (hen : ChR wr (fun k => some k ≠ v.ownBlock) cs pre) (h1 : c.1 = d.1) (h2 : c.2.2 = d.2.2) (hu : IsRw wr (fun k => n0 ≤ k ∧ k < n1) c.2.1 d.2.1) (hv : ∀ k, v.ownBlock = some k → k < n0 ∨ n1 ≤ k) (e3 : w3 = wr.alloc o) (hg : w3.grownBy w7 v.ownBlock) (hor : v'.ownBlock = v.ownBlock ∨ v'.ownBlock = some w3.heap.size) :
    ChR w7 (fun k => some k ≠ v'.ownBlock) (cs ++ [c]) (pre ++ [d]) := by
  subst e3
  have key : ∀ k, k < wr.heap.size → some k ≠ v.ownBlock → some k ≠ v'.ownBlock := by
    intro k hk hkv
    rcases hor with h | h
    · rw [h]
      exact hkv
    · rw [h, World.size_alloc]
      intro e
      injection e with e
      omega
  have h9 : ChR wr (fun k => some k ≠ v.ownBlock ∧ some k ≠ v'.ownBlock) (cs ++ [c]) (pre ++ [d]) := by
    refine ChR.append (ChR.imp (fun k hk h => ⟨h, key k hk h⟩) hen) ⟨h1, h2, hu.imp (fun k hk h => ?_), trivial⟩
    have hkv : some k ≠ v.ownBlock := fun e => by have := hv k e.symm; omega
    exact ⟨hkv, key k hk hkv⟩
  refine ChR.imp (fun k _ h => h.2) (ChR.keep ?_ h9)
  intro k hk hlt3
  rw [hg.block k (by simp; omega) (fun e => hk.1 (by rw [e])), Below.heap_alloc _ _ _ hlt3]

set_option maxRecDepth 100000 in
set_option maxHeartbeats 8000000 in
theorem r_diffD (a1 a2 b1 b2 : Value) (R1 R2 : ByteArray → List (List V)) (A : Option Addr) (n c : Nat) (rels : List ByteArray) (w : World) (hn : rels.length = n) (hl : n ≤ 20) (hA : ∀ (j : Nat) (s : ByteArray), rels[j]? = some s → ∃ a : Addr, A = some a ∧ w.cell? (a.add j) = some (.string s)) (h1 : RowsAreD w a1 a2 R1) (h2 : RowsAreD w b1 b2 R2) :
    Calls Tryz.prog 23 #[a1, a2, b1, b2, .slice A n c] w fun e w' => ∃ v hs, e = .returned v ∧ OwnK w' w.heap.size v hs ∧ ChR w' (fun k => some k ≠ v.ownBlock) hs (chgs R1 R2 rels) ∧ Below w.heap.size w w' := by
  have HA := Lib.hid hA
  have HN := Lib.hid hn
  have H1 := Lib.hid h1
  have H2 := Lib.hid h2
  have HCL : Hid (∀ k, k ≤ n → (chgs R1 R2 (rels.take k)).length ≤ 2000 * k) := Lib.hid (by
    intro k _
    have hone : ∀ r, (chgOf R1 R2 r).length ≤ 2000 := by
      intro r
      unfold chgOf
      rw [List.length_map]
      have := netL_len (R1 r) (R2 r)
      have := (h1 w r (Below.refl _ _)).1.1
      have := (h2 w r (Below.refl _ _)).1.1
      omega
    have hall : ∀ l : List ByteArray, (l.flatMap (chgOf R1 R2)).length ≤ 2000 * l.length := by
      intro l
      induction l with
      | nil => simp
      | cons x xs ih =>
        rw [List.flatMap_cons, List.length_append, List.length_cons]
        have := hone x
        omega
    have := hall (ddL (rels.take k))
    have := ddL_len rels k
    unfold chgs
    omega)
  clear hA hn h1 h2
  go_enter Tryz.func23, Tryz.ntmps23
  go_wp2
  go_loopw [11, 12] (fun v i wr => ∃ (k : Nat) (hs : List CE), k ≤ n ∧ i = .int .i64 k ∧ OwnK wr w.heap.size v hs ∧ ChR wr (fun j => some j ≠ v.ownBlock) hs (chgs R1 R2 (rels.take k)) ∧ Below w.heap.size w wr) (fun _ i _ => n - (intOf i).toNat)
  case atStart => exact ⟨0, [], Nat.zero_le _, rfl, OwnK.nil _ _, trivial, Below.refl _ _⟩
  case round =>
    obtain ⟨k, hs, hk, rfl, hown, hch, hb⟩ := hrel
    have HB := Lib.hid hb
    have HCH := Lib.hid hch
    have HOW := Lib.hid hown
    by_cases hlt : k < n
    · obtain ⟨s, hx⟩ : ∃ s, rels[k]? = some s := ⟨_, List.getElem?_eq_getElem (by rw [HN.out]; exact hlt)⟩
      obtain ⟨a, rfl, hac⟩ := HA.out k s hx
      have hal := World.block_lt_of_cell? w _ hac
      have HCS : Hid (∀ W, Below w.heap.size w W → W.cell? (a.add k) = some (.string s)) := Lib.hid (fun W hW => (hW.cell (p := a.add k) hal).trans hac)
      have HDD := Lib.hid (ddL_take rels k s hx)
      have HXD := Lib.hid (hasX_ddL (rels.take k) s)
      have hzz := HCL.out k hk
      rw [← hch.len] at hzz
      clear hx hac hch hb hown
      go_wp2
      go_loopw [13, 14] (fun ag i w2 => ∃ (j : Nat), j ≤ k ∧ i = .int .i64 j ∧ ag = .bool (hasX s (rels.take j)) ∧ Below wr.heap.size wr w2) (fun _ i _ => k - (intOf i).toNat)
      case atStart => exact ⟨0, Nat.zero_le _, rfl, rfl, Below.refl _ _⟩
      case round =>
        obtain ⟨j, hj, rfl, hag, hb2⟩ := hrel
        subst hag
        have HBI := Lib.hid hb2
        have HBJ := Lib.hid (HB.out.trans (hb2.mono HB.out.size))
        by_cases hjk : j < k
        · obtain ⟨x, hxj⟩ : ∃ x, rels[j]? = some x := ⟨_, List.getElem?_eq_getElem (by rw [HN.out]; omega)⟩
          obtain ⟨a', ha', hacj⟩ := HA.out j x hxj
          have ha2 := Option.some.inj ha'
          subst ha2
          have hceJ : ∀ W, Below w.heap.size w W → W.cell? (a.add j) = some (.string x) := fun W hW => (hW.cell (p := a.add j) (World.block_lt_of_cell? w _ hacj)).trans hacj
          have d0 := hceJ wr HBJ.out
          have d1 := HCS.out wr HBJ.out
          have HTK := Lib.hid (hasX_take rels j x s hxj)
          cases hq : hasX s (rels.take j) with
          | true =>
            rw [hq, Bool.true_or] at HTK
            clear hxj ha' hacj hceJ hb2 hq
            go_wp2_with fail
            go_quiet (fail)
            go_wp2
            go_roundw
            case rel => exact ⟨j + 1, by omega, by go_num, by rw [HTK.out], by first | exact HBI.out.drew | exact below_drewN' HBI.out _⟩
            case measure => simp [intOf]; omega
          | false =>
            rw [hq, Bool.false_or] at HTK
            clear hxj ha' hacj hceJ hb2 hq
            cases hxs : (x.toList == s.toList) with
            | true =>
              rw [hxs] at HTK
              go_wp2_with fail
              go_quiet (fail)
              go_wp2
              go_roundw
              case rel => exact ⟨j + 1, by omega, by go_num, by rw [HTK.out], by first | exact HBI.out.drew | exact below_drewN' HBI.out _⟩
              case measure => simp [intOf]; omega
            | false =>
              rw [hxs] at HTK
              go_wp2_with fail
              go_quiet (fail)
              go_wp2
              go_roundw
              case rel => exact ⟨j + 1, by omega, by go_num, by rw [HTK.out], by first | exact HBI.out.drew | exact below_drewN' HBI.out _⟩
              case measure => simp [intOf]; omega
        · obtain rfl : j = k := by omega
          cases hq : hasX s (rels.take j) with
          | true =>
            have hdd := HDD.out
            rw [HXD.out, hq, if_pos rfl] at hdd
            have HD2 := Lib.hid hdd
            clear hb2 hdd hq
            go_wp2
            go_roundw
            case rel =>
              refine ⟨j + 1, hs, by omega, by go_num, HOW.out.below HBI.out, ?_, HBJ.out⟩
              have e : chgs R1 R2 (rels.take (j + 1)) = chgs R1 R2 (rels.take j) := by unfold chgs; rw [HD2.out]
              rw [e]
              exact HCH.out.keep (Below.keepQ HBI.out _)
            case measure => simp [intOf]; omega
          | false =>
            have hdd := HDD.out
            rw [HXD.out, hq, if_neg (by simp)] at hdd
            have HD2 := Lib.hid hdd
            have HCH1 := Lib.hid (HCH.out.keep (Below.keepQ HBI.out _))
            have HOW1 := Lib.hid (HOW.out.below HBI.out)
            have c1 := HCS.out wr HBJ.out
            obtain ⟨r1o, r1c⟩ := H1.out wr s HBJ.out
            have HO1 := Lib.hid r1o
            have HC1 := Lib.hid r1c
            clear hb2 hdd hq r1o r1c
            go_wp2_with fail
            refine HC1.out.mono ?_
            rintro e w2 ⟨v2, us2, rfl, ho2, hr2, hb2⟩
            obtain ⟨A2, c2, rfl, _, hc2⟩ := ho2.cells
            have hul2 : us2.length = (R1 s).length := hr2.len
            obtain ⟨m2, hm2⟩ : ∃ m2, us2.length = m2 := ⟨_, rfl⟩
            rw [hm2]
            have HM2 := Lib.hid hm2
            have HU2 := Lib.hid hul2
            have HA2 := Lib.hid hc2
            have HR2 := Lib.hid hr2
            have HBW2 := Lib.hid (HBJ.out.trans (hb2.mono HBJ.out.size))
            have HBX2 := Lib.hid hb2
            have c2' := HCS.out w2 HBW2.out
            obtain ⟨r2o, r2c⟩ := H2.out w2 s HBW2.out
            have HO2 := Lib.hid r2o
            have HC2 := Lib.hid r2c
            clear ho2 hr2 hb2 hc2 r2o r2c hm2 hul2
            go_wp2_with fail
            refine HC2.out.mono ?_
            rintro e w3 ⟨v3, us3, rfl, ho3, hr3, hb3⟩
            obtain ⟨A3, c3, rfl, _, hc3⟩ := ho3.cells
            have hul3 : us3.length = (R2 s).length := hr3.len
            obtain ⟨m3, hm3⟩ : ∃ m3, us3.length = m3 := ⟨_, rfl⟩
            rw [hm3]
            have HM3 := Lib.hid hm3
            have HU3 := Lib.hid hul3
            have hz23 := hb3.size
            have hz12 := HBX2.out.size
            have HA3 := Lib.hid (hc3.imp (Q' := fun k => wr.heap.size ≤ k ∧ k < w3.heap.size) (fun k _ h => ⟨by omega, h.2⟩))
            have HR3 := Lib.hid (hr3.imp (Q' := fun k => wr.heap.size ≤ k ∧ k < w3.heap.size) (fun k hk h => ⟨by omega, hk⟩))
            have HA23 := Lib.hid ((HA2.out.keep (Below.keepQ hb3 _)).imp (Q' := fun k => wr.heap.size ≤ k ∧ k < w3.heap.size) (fun k hk h => ⟨h.1, hk⟩))
            have HR23 := Lib.hid ((HR2.out.keep (Below.keepQ hb3 _)).imp (Q' := fun k => wr.heap.size ≤ k ∧ k < w3.heap.size) (fun k hk h => ⟨h, hk⟩))
            have HBW3 := Lib.hid (HBW2.out.trans (hb3.mono HBW2.out.size))
            have HBX3 := Lib.hid (HBX2.out.trans (hb3.mono HBX2.out.size))
            clear ho3 hr3 hb3 hc3 hm3 hul3
            go_wp2_with (at_builtin; go_must (first
              | (refine wp_append_G _ rfl (.tmp 58) (.tmp 59) rfl w3.heap.size (.slice none 0 0) [] us2 rfl (OwnG.nil _ _) A2 m2 c2 rfl HM2.out.symm (fun j u hj => by obtain ⟨a, ha, _, hc⟩ := HA23.out j u hj; exact ⟨a, ha, hc⟩) HR23.out.one (by have := HU2.out; have := HO1.out.1; simp; omega) (Nat.le_refl _) ?_; intro v4 w4 hown4 hb4 _ _; rw [List.nil_append] at hown4; have HOW4 := Lib.hid hown4; have HB4 := Lib.hid hb4; have HA34 := Lib.hid (HA3.out.keep (fun k hk _ => hb4.block k hk.2)); clear hown4 hb4)
              | (refine wp_append_G _ rfl (.tmp 61) (.tmp 62) rfl w3.heap.size v4 us2 us3 rfl HOW4.out A3 m3 c3 rfl HM3.out.symm (fun j u hj => by obtain ⟨a, ha, _, hc⟩ := HA34.out j u hj; exact ⟨a, ha, hc⟩) HR3.out.one (by have := HU2.out; have := HO1.out.1; have := HU3.out; have := HO2.out.1; omega) HB4.out.size ?_; intro v5 w5 hown5 hb5 _ _; obtain ⟨A5, c5, hv5, _, hc5⟩ := hown5.cells; obtain ⟨m5, hm5⟩ : ∃ m5, (us2 ++ us3).length = m5 := ⟨_, rfl⟩; rw [hm5] at hv5; subst hv5; have HM5 := Lib.hid hm5; have HA5 := Lib.hid hc5; have HB5 := Lib.hid (HB4.out.trans hb5); clear hown5 hb5 hc5 hm5)))
            have hrs5 : RwsQ w5 (fun k => wr.heap.size ≤ k ∧ k < w3.heap.size) (us2 ++ us3) (R1 s ++ R2 s) := (HR23.out.append HR3.out).keep (fun k hk _ => HB5.out.block k hk.2)
            have HSRT := Lib.hid (ref_sort _ A5 c5 (us2 ++ us3) (R1 s ++ R2 s) m5 w5 (by rw [← HM5.out]; exact hrs5.len) (by have := HM5.out; rw [List.length_append] at this; have := HU2.out; have := HO1.out.1; have := HU3.out; have := HO2.out.1; omega) (HA5.out.imp (fun k _ h => h.2)) hrs5 (fun x hx => by
              rcases List.mem_append.1 hx with h | h
              · exact right_fit x (HO1.out.2.2.1 x h)
              · exact right_fit x (HO2.out.2.2.1 x h)))
            clear hrs5
            refine HSRT.out.mono ?_
            rintro e w6 ⟨v6, us6, rfl, ho6, hr6, hb6⟩
            obtain ⟨A6, c6, rfl, _, hc6⟩ := ho6.cells
            obtain ⟨S, hS⟩ : ∃ S, sortL (R1 s ++ R2 s) = S := ⟨_, rfl⟩
            rw [hS] at hr6
            have hul6 : us6.length = S.length := hr6.len
            obtain ⟨m6, hm6⟩ : ∃ m6, us6.length = m6 := ⟨_, rfl⟩
            rw [hm6]
            have HM6 := Lib.hid hm6
            have HU6 := Lib.hid hul6
            have HS := Lib.hid hS
            have hz35 := HB5.out.size
            have hz56 := hb6.size
            have hz13 := HBX3.out.size
            have HMS : Hid (m6 ≤ 2000) := Lib.hid (by
              rw [← hm6, hul6, ← hS]
              have h1 := (sortL_facts (R1 s ++ R2 s)).2.2.2
              rw [List.length_append] at h1
              have := HO1.out.1
              have := HO2.out.1
              omega)
            have hb36 : Below w3.heap.size w3 w6 := HB5.out.trans (hb6.mono hz35)
            have hkp6 : ∀ k, wr.heap.size ≤ k ∧ k < w3.heap.size → k < w3.heap.size → w6.heap[k]? = w3.heap[k]? := fun k hk _ => hb36.block k hk.2
            have HA26 := Lib.hid ((HA23.out.keep hkp6).imp (Q' := fun k => wr.heap.size ≤ k ∧ k < w6.heap.size) (fun k hk h => ⟨h.1, hk⟩))
            have HR26 := Lib.hid ((HR23.out.keep hkp6).imp (Q' := fun k => wr.heap.size ≤ k ∧ k < w6.heap.size) (fun k hk h => ⟨h.1, hk⟩))
            have HA36 := Lib.hid ((HA3.out.keep hkp6).imp (Q' := fun k => wr.heap.size ≤ k ∧ k < w6.heap.size) (fun k hk h => ⟨h.1, hk⟩))
            have HR36 := Lib.hid ((HR3.out.keep hkp6).imp (Q' := fun k => wr.heap.size ≤ k ∧ k < w6.heap.size) (fun k hk h => ⟨h.1, hk⟩))
            have HA66 := Lib.hid (hc6.imp (Q' := fun k => wr.heap.size ≤ k ∧ k < w6.heap.size) (fun k hk h => ⟨by omega, hk⟩))
            have HR66 := Lib.hid (hr6.imp (Q' := fun k => wr.heap.size ≤ k ∧ k < w6.heap.size) (fun k hk h => ⟨h.1, hk⟩))
            have hb16 : Below wr.heap.size wr w6 := HBX3.out.trans (hb36.mono hz13)
            have HBW6 := Lib.hid (HBJ.out.trans (hb16.mono HBJ.out.size))
            have HCH6 := Lib.hid (HCH1.out.keep (Below.keepQ hb16 _))
            have HOW6 := Lib.hid (HOW1.out.below hb16)
            have HOLT := Lib.hid (fun g (hg : u11.ownBlock = some g) => (HOW1.out.lt g hg).2)
            have HN0 := Lib.hid (show w.heap.size ≤ wr.heap.size from HBJ.out.size)
            obtain ⟨n0, hn0⟩ : ∃ n0, n0 = wr.heap.size := ⟨_, rfl⟩
            rw [← hn0] at HA26 HR26 HA36 HR36 HA66 HR66 HOLT HN0
            have HN0' := Lib.hid hn0
            have hn06 : n0 ≤ w6.heap.size := by rw [hn0]; exact hb16.size
            clear ho6 hr6 hb6 hc6 hS hul6 hm6 hb36 hkp6 hb16 hn0
            go_wp2_with fail
            go_loopw [11, 18] (fun v iz w7 => ∃ (z : Nat) (hs5 : List CE), z ≤ m6 ∧ iz = .int .i64 z ∧ OwnK w7 w.heap.size v hs5 ∧ ChR w7 (fun g => some g ≠ v.ownBlock) hs5 (chgs R1 R2 (rels.take j) ++ (dK (R1 s) (R2 s) z).map fun e => (s, e)) ∧ (∀ g, v.ownBlock = some g → g < n0 ∨ w6.heap.size ≤ g) ∧ KeepQ (fun k => n0 ≤ k ∧ k < w6.heap.size) w6 w7 ∧ Below w.heap.size w w7 ∧ w6.heap.size ≤ w7.heap.size) (fun _ i _ => m6 - (intOf i).toNat)
            case atStart => exact ⟨0, hs, Nat.zero_le _, rfl, HOW6.out, by simpa [dK] using HCH6.out, fun g hg => .inl (HOLT.out g hg), fun _ _ _ => rfl, HBW6.out, Nat.le_refl _⟩
            case round =>
              obtain ⟨i, hs5, hi, rfl, hown5, hch5, hov5, hkp5, hb5, hz5⟩ := hrel
              have HOW5 := Lib.hid hown5
              have HCH5 := Lib.hid hch5
              have HOV5 := Lib.hid hov5
              have HKP5 := Lib.hid hkp5
              have HB5' := Lib.hid hb5
              have ccs := HCS.out wr hb5
              by_cases hit : i < m6
              · obtain ⟨x, hx⟩ : ∃ x, S[i]? = some x := ⟨_, List.getElem?_eq_getElem (by rw [← HU6.out, HM6.out]; exact hit)⟩
                obtain ⟨uv, huv, hur⟩ := HR66.out.get i x hx
                obtain ⟨q, rfl, hqb, hqc⟩ := HA66.out i uv huv
                have hql := World.block_lt_of_cell? w6 _ hqc
                have e1 : wr.cell? (q.add i) = some uv := (World.cell?_of_block (w := w6) (hkp5 _ hqb hql)).trans hqc
                have hql5 : (q.add i).block < wr.heap.size := Nat.lt_of_lt_of_le hql hz5
                have hxin : x ∈ R1 s ++ R2 s := (sortL_facts (R1 s ++ R2 s)).2.1 x (by rw [HS.out]; exact List.mem_of_getElem? hx)
                have hxo : x.length ≤ 1000000 ∧ x ≠ [] := by
                  rcases List.mem_append.1 hxin with h | h
                  · exact HO1.out.2.1 x h
                  · exact HO2.out.2.1 x h
                have hrow5 := (hur.keep hkp5).row hxo.1 hxo.2
                have HRW := Lib.hid hrow5
                have hkw : ∀ W, Below wr.heap.size wr W → KeepQ (fun k => n0 ≤ k ∧ k < w6.heap.size) w6 W := fun W hW k hk hkl => (hW.block k (Nat.lt_of_lt_of_le hkl hz5)).trans (hkp5 k hk hkl)
                have HKW := Lib.hid hkw
                obtain ⟨_, A9, c9, rfl, _, _⟩ := id hrow5
                have HCQ : Hid (∀ W, Below wr.heap.size wr W → W.cell? (q.add i) = some (.slice A9 x.length c9)) := Lib.hid (fun W hW => (hW.cell (p := q.add i) hql5).trans e1)
                have HH1 := Lib.hid (fun W (hW : Below wr.heap.size wr W) => r_has _ _ A2 m2 c2 us2 (R1 s) (.slice A9 x.length c9) x W HM2.out (by have := HM2.out; have := HU2.out; have := HO1.out.1; omega) (HA26.out.keep (HKW.out W hW)) (HR26.out.keep (HKW.out W hW)) HO1.out.2.1 HO1.out.2.2.1 (HRW.out.keep (Below.keepQ hW _)))
                have HH2 := Lib.hid (fun W (hW : Below wr.heap.size wr W) => r_has _ _ A3 m3 c3 us3 (R2 s) (.slice A9 x.length c9) x W HM3.out (by have := HM3.out; have := HU3.out; have := HO2.out.1; omega) (HA36.out.keep (HKW.out W hW)) (HR36.out.keep (HKW.out W hW)) HO2.out.2.1 HO2.out.2.2.1 (HRW.out.keep (Below.keepQ hW _)))
                have HDK := Lib.hid (dK_succ (a := R1 s) (b := R2 s) (k := i) (x := x) (by rw [HS.out]; exact hx))
                have hlen5 := hch5.len
                rw [List.length_append, List.length_map] at hlen5
                have hdl := dK_len (R1 s) (R2 s) i
                have hcl5 := HCL.out j (by omega)
                have HLEN : Hid (hs5.length ≤ 100000) := Lib.hid (by have := HMS.out; omega)
                have HMP : Hid (∀ l : List En, (dK (R1 s) (R2 s) i ++ l).map (fun e => (s, e)) = (dK (R1 s) (R2 s) i).map (fun e => (s, e)) ++ l.map fun e => (s, e)) := Lib.hid (fun l => List.map_append)
                have hm2k := HMS.out
                clear hx huv hur hqc hkp5 hown5 hch5 hov5 hb5 hxin hrow5 hkw hlen5 hdl hcl5
                cases hga : hasR (R1 s) x <;> cases hgb : hasR (R2 s) x
                all_goals rw [hga] at HH1 HDK
                all_goals rw [hgb] at HH2 HDK
                all_goals clear hga hgb
                · go_wp2_with fail
                  go_region_held3 (fun W : World => W.cell? (q.add i) = some (.slice A9 x.length c9)) (go_keep)
                    (first
                      | (go_at_call_of 54 (Value.slice A2 m2 c2); refine (HH1.out _ (by first | exact Below.drew (Below.refl _ _) | exact below_drewN' (Below.refl _ _) _)).mono ?_; rintro e w21 ⟨rfl, hb21⟩; have HB21 : Hid (Below wr.heap.size wr w21) := Lib.hid ((by first | exact Below.drew (Below.refl _ _) | exact below_drewN' (Below.refl _ _) _ : Below wr.heap.size wr _).trans hb21); have f1 := HCQ.out w21 HB21.out; clear hb21)
                      | (go_at_call_of 54 (Value.slice A3 m3 c3); refine (HH2.out _ HB21.out).mono ?_; rintro e w22 ⟨rfl, hb22⟩; have HB22 := Lib.hid (HB21.out.trans (hb22.mono HB21.out.size)); have f2 := HCQ.out w22 HB22.out; clear hb22))
                  go_wp2
                  go_roundw
                  case rel => exact ⟨i + 1, hs5, by omega, by go_num, HOW5.out.below HB22.out, by rw [HDK.out]; simpa using HCH5.out.keep (Below.keepQ HB22.out _), HOV5.out, HKW.out w22 HB22.out, HB5'.out.trans (HB22.out.mono HB5'.out.size), by have := HB22.out.size; omega⟩
                  case measure => simp [intOf]; omega
                · go_wp2_with fail
                  go_region_held3 (fun W : World => W.cell? (q.add i) = some (.slice A9 x.length c9)) (go_keep)
                    (first
                      | (go_at_call_of 54 (Value.slice A2 m2 c2); refine (HH1.out _ (by first | exact Below.drew (Below.refl _ _) | exact below_drewN' (Below.refl _ _) _)).mono ?_; rintro e w21 ⟨rfl, hb21⟩; have HB21 : Hid (Below wr.heap.size wr w21) := Lib.hid ((by first | exact Below.drew (Below.refl _ _) | exact below_drewN' (Below.refl _ _) _ : Below wr.heap.size wr _).trans hb21); have f1 := HCQ.out w21 HB21.out; clear hb21)
                      | (go_at_call_of 54 (Value.slice A3 m3 c3); refine (HH2.out _ HB21.out).mono ?_; rintro e w22 ⟨rfl, hb22⟩; have HB22 := Lib.hid (HB21.out.trans (hb22.mono HB21.out.size)); have f2 := HCQ.out w22 HB22.out; clear hb22))
                  have ccw := HCS.out w22 (HB5'.out.trans (HB22.out.mono HB5'.out.size))
                  have hon2 := one_new w22 (.cells #[.string ⟨#[]⟩, .slice none 0 0, .int .i64 0] 114)
                  have hq22 : (q.add i).block < w22.heap.size := Nat.lt_of_lt_of_le hql5 HB22.out.size
                  have ccz := HCS.out _ ((HB5'.out.trans (HB22.out.mono HB5'.out.size)).trans (hon2.mono (HB5'.out.trans (HB22.out.mono HB5'.out.size)).size))
                  have f3 := (hon2.cell (p := q.add i) hq22).trans f2
                  clear hon2
                  go_wp2_with fail
                  go_region
                  go_wp2_with fail
                  have honc := one_new w22 (.cells #[.string s, .slice A9 x.length c9, .int .i64 1] 114)
                  have hxc : ((w22.alloc (.cells #[.string s, .slice A9 x.length c9, .int .i64 1] 114)).drew).heap[w22.heap.size]? = some (.cells #[.string s, .slice A9 x.length c9, .int .i64 1] 114 (0, 0)) := World.alloc_heap_new w22 _
                  have hzc : ((w22.alloc (.cells #[.string s, .slice A9 x.length c9, .int .i64 1] 114)).drew).heap.size = w22.heap.size + 1 := by simp
                  have HBC := Lib.hid (HB22.out.trans (honc.drew.mono HB22.out.size))
                  refine (HH1.out _ HBC.out).mono ?_
                  rintro e w23 ⟨rfl, hb23⟩
                  have hx23 := (hb23.block w22.heap.size (by rw [hzc]; omega)).trans hxc
                  have HB23 := Lib.hid (HBC.out.trans (hb23.mono HBC.out.size))
                  have hz23' := hb23.size
                  rw [hzc] at hz23'
                  have g0 := cell_of_row w23 w22.heap.size 0 _ _ _ hx23
                  have g1 := cell_of_row w23 w22.heap.size 1 _ _ _ hx23
                  have g2 := cell_of_row w23 w22.heap.size 2 _ _ _ hx23
                  have g3 := frozen_of_row w23 w22.heap.size 2 _ _ hx23
                  have hzz22 := HB22.out.size
                  have HB24 : Hid (Below wr.heap.size wr (w23)) := Lib.hid (HB23.out)
                  have HOW7 := Lib.hid (HOW5.out.below HB24.out)
                  clear honc hxc hb23 hx23 ccw ccz f1 f2 f3
                  go_wp2_with (at_builtin; go_must (refine wp_append_K _ rfl (.tmp 101) (.tmp 103) rfl w.heap.size u11 hs5 rfl (HOW7.out.alloc _) (s, Value.slice A9 x.length c9, 1) ⟨_, 0, none⟩ 1 rfl _ (lit_Hg _ _ _ _ _ _ (by simp)) rfl (by have := HLEN.out; omega) (by simp; have := HB5'.out.size; have := HB24.out.size; (try simp at this); omega) ?_; intro v7 w7 hown7 hb7 hg7 hor7))
                  have hnx := chg_next2 (n0 := n0) (n1 := w6.heap.size) (c := (s, Value.slice A9 x.length c9, 1)) (d := (s, (x, 1))) (HCH5.out.keep (Below.keepQ HB24.out _)) rfl rfl ((HRW.out.keep (Below.keepQ HB24.out _)).rw) HOV5.out rfl hg7 hor7
                  have hz24 := HB24.out.size
                  have hkp : ∀ g, g < wr.heap.size → u11.ownBlock ≠ some g → w7.heap[g]? = wr.heap[g]? := fun g hg hne => by
                    rw [hg7.block g (by rw [World.size_alloc]; omega) (fun e => hne e.symm), Below.heap_alloc _ _ _ (by omega)]
                    exact HB24.out.block g hg
                  have hov7 : ∀ g, v7.ownBlock = some g → g < n0 ∨ w6.heap.size ≤ g := fun g hg => by
                    rcases hor7 with h | h
                    · exact HOV5.out g (by rw [← h]; exact hg)
                    · rw [h] at hg
                      injection hg with hg
                      rw [World.size_alloc] at hg
                      exact .inr (by omega)
                  have hz7 := hg7.size
                  rw [World.size_alloc] at hz7
                  go_roundw
                  case rel =>
                    refine ⟨i + 1, hs5 ++ [(s, Value.slice A9 x.length c9, 1)], by omega, by go_num, hown7, ?_, hov7, fun g hg hgl => (hkp g (by omega) (fun e => by have := HOV5.out g e; omega)).trans (HKW.out wr (Below.refl _ _) g hg hgl), ?_, by omega⟩
                    · rw [HDK.out]
                      simpa [← List.append_assoc] using hnx
                    · exact HB5'.out.trans ((HB24.out.mono HB5'.out.size).trans (((one_new _ _).mono (by have := HB5'.out.size; omega)).trans (hb7.mono (Nat.le_refl _))))
                  case measure => simp [intOf]; omega
                · go_wp2_with fail
                  go_region_held3 (fun W : World => W.cell? (q.add i) = some (.slice A9 x.length c9)) (go_keep)
                    (first
                      | (go_at_call_of 54 (Value.slice A2 m2 c2); refine (HH1.out _ (by first | exact Below.drew (Below.refl _ _) | exact below_drewN' (Below.refl _ _) _)).mono ?_; rintro e w21 ⟨rfl, hb21⟩; have HB21 : Hid (Below wr.heap.size wr w21) := Lib.hid ((by first | exact Below.drew (Below.refl _ _) | exact below_drewN' (Below.refl _ _) _ : Below wr.heap.size wr _).trans hb21); have f1 := HCQ.out w21 HB21.out; clear hb21)
                      | (go_at_call_of 54 (Value.slice A3 m3 c3); refine (HH2.out _ HB21.out).mono ?_; rintro e w22 ⟨rfl, hb22⟩; have HB22 := Lib.hid (HB21.out.trans (hb22.mono HB21.out.size)); have f2 := HCQ.out w22 HB22.out; clear hb22))
                  have ccw := HCS.out w22 (HB5'.out.trans (HB22.out.mono HB5'.out.size))
                  have hon2 := one_new w22 (.cells #[.string ⟨#[]⟩, .slice none 0 0, .int .i64 0] 114)
                  have hq22 : (q.add i).block < w22.heap.size := Nat.lt_of_lt_of_le hql5 HB22.out.size
                  have ccz := HCS.out _ ((HB5'.out.trans (HB22.out.mono HB5'.out.size)).trans (hon2.mono (HB5'.out.trans (HB22.out.mono HB5'.out.size)).size))
                  have f3 := (hon2.cell (p := q.add i) hq22).trans f2
                  clear hon2
                  go_wp2_with fail
                  go_region
                  go_wp2_with fail
                  have honc := one_new w22 (.cells #[.string s, .slice A9 x.length c9, .int .i64 1] 114)
                  have hxc : ((w22.alloc (.cells #[.string s, .slice A9 x.length c9, .int .i64 1] 114)).drew).heap[w22.heap.size]? = some (.cells #[.string s, .slice A9 x.length c9, .int .i64 1] 114 (0, 0)) := World.alloc_heap_new w22 _
                  have hzc : ((w22.alloc (.cells #[.string s, .slice A9 x.length c9, .int .i64 1] 114)).drew).heap.size = w22.heap.size + 1 := by simp
                  have HBC := Lib.hid (HB22.out.trans (honc.drew.mono HB22.out.size))
                  refine (HH1.out _ HBC.out).mono ?_
                  rintro e w23 ⟨rfl, hb23⟩
                  have hx23 := (hb23.block w22.heap.size (by rw [hzc]; omega)).trans hxc
                  have HB23 := Lib.hid (HBC.out.trans (hb23.mono HBC.out.size))
                  have hz23' := hb23.size
                  rw [hzc] at hz23'
                  have g0 := cell_of_row w23 w22.heap.size 0 _ _ _ hx23
                  have g1 := cell_of_row w23 w22.heap.size 1 _ _ _ hx23
                  have g2 := cell_of_row w23 w22.heap.size 2 _ _ _ hx23
                  have g3 := frozen_of_row w23 w22.heap.size 2 _ _ hx23
                  have hzz22 := HB22.out.size
                  have HB24 : Hid (Below wr.heap.size wr (w23.setCell ⟨w22.heap.size, 2, none⟩ (.int .i64 (-1)))) := Lib.hid (bsetG HB23.out (by exact hzz22))
                  have HOW7 := Lib.hid (HOW5.out.below HB24.out)
                  clear honc hxc hb23 hx23 ccw ccz f1 f2 f3
                  go_wp2_with (at_builtin; go_must (refine wp_append_K _ rfl (.tmp 101) (.tmp 103) rfl w.heap.size u11 hs5 rfl (HOW7.out.alloc _) (s, Value.slice A9 x.length c9, -1) ⟨_, 0, none⟩ 1 rfl _ (lit_Hg _ _ _ _ _ _ (by simp)) rfl (by have := HLEN.out; omega) (by simp; have := HB5'.out.size; have := HB24.out.size; (try simp at this); omega) ?_; intro v7 w7 hown7 hb7 hg7 hor7))
                  have hnx := chg_next2 (n0 := n0) (n1 := w6.heap.size) (c := (s, Value.slice A9 x.length c9, -1)) (d := (s, (x, -1))) (HCH5.out.keep (Below.keepQ HB24.out _)) rfl rfl ((HRW.out.keep (Below.keepQ HB24.out _)).rw) HOV5.out rfl hg7 hor7
                  have hz24 := HB24.out.size
                  have hkp : ∀ g, g < wr.heap.size → u11.ownBlock ≠ some g → w7.heap[g]? = wr.heap[g]? := fun g hg hne => by
                    rw [hg7.block g (by rw [World.size_alloc]; omega) (fun e => hne e.symm), Below.heap_alloc _ _ _ (by omega)]
                    exact HB24.out.block g hg
                  have hov7 : ∀ g, v7.ownBlock = some g → g < n0 ∨ w6.heap.size ≤ g := fun g hg => by
                    rcases hor7 with h | h
                    · exact HOV5.out g (by rw [← h]; exact hg)
                    · rw [h] at hg
                      injection hg with hg
                      rw [World.size_alloc] at hg
                      exact .inr (by omega)
                  have hz7 := hg7.size
                  rw [World.size_alloc] at hz7
                  go_roundw
                  case rel =>
                    refine ⟨i + 1, hs5 ++ [(s, Value.slice A9 x.length c9, -1)], by omega, by go_num, hown7, ?_, hov7, fun g hg hgl => (hkp g (by omega) (fun e => by have := HOV5.out g e; omega)).trans (HKW.out wr (Below.refl _ _) g hg hgl), ?_, by omega⟩
                    · rw [HDK.out]
                      simpa [← List.append_assoc] using hnx
                    · exact HB5'.out.trans ((HB24.out.mono HB5'.out.size).trans (((one_new _ _).mono (by have := HB5'.out.size; omega)).trans (hb7.mono (Nat.le_refl _))))
                  case measure => simp [intOf]; omega
                · go_wp2_with fail
                  go_region_held3 (fun W : World => W.cell? (q.add i) = some (.slice A9 x.length c9)) (go_keep)
                    (first
                      | (go_at_call_of 54 (Value.slice A2 m2 c2); refine (HH1.out _ (by first | exact Below.drew (Below.refl _ _) | exact below_drewN' (Below.refl _ _) _)).mono ?_; rintro e w21 ⟨rfl, hb21⟩; have HB21 : Hid (Below wr.heap.size wr w21) := Lib.hid ((by first | exact Below.drew (Below.refl _ _) | exact below_drewN' (Below.refl _ _) _ : Below wr.heap.size wr _).trans hb21); have f1 := HCQ.out w21 HB21.out; clear hb21)
                      | (go_at_call_of 54 (Value.slice A3 m3 c3); refine (HH2.out _ HB21.out).mono ?_; rintro e w22 ⟨rfl, hb22⟩; have HB22 := Lib.hid (HB21.out.trans (hb22.mono HB21.out.size)); have f2 := HCQ.out w22 HB22.out; clear hb22))
                  go_wp2
                  go_roundw
                  case rel => exact ⟨i + 1, hs5, by omega, by go_num, HOW5.out.below HB22.out, by rw [HDK.out]; simpa using HCH5.out.keep (Below.keepQ HB22.out _), HOV5.out, HKW.out w22 HB22.out, HB5'.out.trans (HB22.out.mono HB5'.out.size), by have := HB22.out.size; omega⟩
                  case measure => simp [intOf]; omega
              · obtain rfl : i = m6 := by omega
                have hdk : dK (R1 s) (R2 s) i = dL (R1 s) (R2 s) := by
                  rw [← dK_all, HS.out, ← HU6.out, HM6.out]
                rw [hdk] at hch5
                have HCH9 := Lib.hid hch5
                clear hkp5 hown5 hch5 hov5 hb5 hdk
                go_wp2
                go_roundw
                case rel =>
                  refine ⟨j + 1, hs5, by omega, by go_num, HOW5.out, ?_, HB5'.out⟩
                  have e : chgs R1 R2 (rels.take (j + 1)) = chgs R1 R2 (rels.take j) ++ (dL (R1 s) (R2 s)).map fun e => (s, e) := by
                    unfold chgs
                    rw [HD2.out, List.flatMap_append, List.flatMap_cons, List.flatMap_nil, List.append_nil, chgOf_dL HO1.out HO2.out]
                  rw [e]
                  exact HCH9.out
                case measure => simp [intOf]; omega
    · obtain rfl : k = n := by omega
      rw [List.take_of_length_le (by have := HN.out; omega)] at hch
      have HCH9 := Lib.hid hch
      clear hch hb hown
      go_wp2
      go_ret
      exact ⟨_, hs, rfl, HOW.out, HCH9.out, HB.out⟩
end
end Go.Proofs.YtdhpoaecedpbdaaGreat
