/-
  Literals as texts; the library's Clone of texts and FormatInt, as they are called.
  Condition: values' numbers are of 64 bits; words are short.
  A rule as a text.
  Condition: values' numbers are of 64 bits; words are short.
  The program's print of a rule: its text, and what is answered.
  Condition: the package-level errors of strconv stand; values' numbers are of 64 bits; words are short.
-/
import Derived.Test.YtkobfngnnblpeaaGreatDoorMPca
import Derived.Test.YtkobfngnnblpeaaGreatDoorMPk0
import Derived.Test.YtkobfngnnblpeaaGreatDoorMPpt
import Derived.Test.YtkobfngnnblpeaaGreatDoorMPsa
namespace Go.Proofs.YtkobfngnnblpeaaGreatDoor
section
open Go.RowKit

set_option maxRecDepth 100000 in
set_option maxHeartbeats 4000000 in
theorem p_literals (A : Option Addr) (c : Nat) (l : List LmG) (w : World) (hv : Vars w) (hl : l.length ≤ 400) (hla : ∀ x ∈ l, x.args.length ≤ 400) (hw : ∀ x ∈ l, ∀ a ∈ x.args, Wide a.v) (hs : ∀ x ∈ l, ∀ t ∈ liW x.li, t.length ≤ 300) (h : LgsAt w A l) :
    Calls Tryz.prog 51 #[.slice A l.length c] w fun e w' => ∃ v, e = .returned v ∧ OwnSt w' w.heap.size v (l.map fun x => ⟨(liX x.li).toArray⟩) ∧ Below w.heap.size w w' := by
  have HV := Lib.hid hv
  have HLA := Lib.hid hla
  have HW := Lib.hid hw
  have HS := Lib.hid hs
  have HE := Lib.hid h
  clear hv hw h hla hs
  go_enter Tryz.func51, Tryz.ntmps51
  go_wp2
  go_loopw [3, 8] (fun v i wr => ∃ (k : Nat), k ≤ l.length ∧ i = .int .i64 k ∧ Hid (OwnSt wr w.heap.size v ((l.take k).map fun x => ⟨(liX x.li).toArray⟩)) ∧ Below w.heap.size w wr) (fun _ i _ => l.length - (intOf i).toNat)
  case atStart => exact ⟨0, Nat.zero_le _, rfl, Lib.hid (OwnF.nil _ _), Below.refl _ _⟩
  case round =>
    obtain ⟨k, hk, rfl, HO, hb⟩ := hrel
    have HB := Lib.hid hb
    have hsz := hb.size
    obtain ⟨oA, oc, hov⟩ := HO.out.shape
    have hln : ((l.take k).map fun x => (⟨(liX x.li).toArray⟩ : ByteArray)).length = k := by rw [List.length_map, List.length_take]; omega
    rw [hln] at hov
    subst hov
    by_cases hlt : k < l.length
    · obtain ⟨x, hx⟩ : ∃ x, l[k]? = some x := ⟨_, List.getElem?_eq_getElem hlt⟩
      have hE := HE.out.below hb
      obtain ⟨a, rfl, a0, a1, a2, a3⟩ := els_L hE.1 hx
      have hm := List.mem_of_getElem? hx
      have hargs := hE.2 x hm
      have HT : Hid (∀ W, Below wr.heap.size wr W → Calls Tryz.prog 91 #[.agg #[.bool x.n, .string x.s, .slice x.A x.args.length x.c, .int .i64 x.o]] W fun e w' => e = .returned (.string ⟨(liX x.li).toArray⟩) ∧ Below W.heap.size W w') := Lib.hid fun W hW => p_literal x.n x.s x.A x.c x.args x.o W ((HV.out.later HB.out).later hW) (HLA.out x hm) (HW.out x hm) (hargs.below hW) (HS.out x hm)
      have HX := Lib.hid hx
      clear hb hx hE hargs hm
      obtain ⟨n, s, xA, xc, args, o⟩ := x
      obtain ⟨y, hy⟩ : ∃ y : ByteArray, y = ⟨(liX (LmG.li ⟨n, s, xA, xc, args, o⟩)).toArray⟩ := ⟨_, rfl⟩
      have HY := Lib.hid hy
      rw [← hy] at HT
      clear hy
      obtain ⟨ys, hys⟩ : ∃ ys, ys = (l.take k).map fun x => (⟨(liX x.li).toArray⟩ : ByteArray) := ⟨_, rfl⟩
      have HYS := Lib.hid hys
      rw [← hys] at HO hln
      clear hys
      have hroom : ys.length ≤ 1000000 := by omega
      go_wp2_with (fail)
      refine (HT.out _ (one_new _ _)).mono ?_
      rintro e w4 ⟨rfl, hb4⟩
      have hb5 := (one_new wr (.cells #[.bool n, .string s, .slice xA args.length xc, .int .i64 o] 50)).trans (hb4.mono (one_new wr _).size)
      have H4 := Lib.hid (HO.out.below hb5)
      have HB4 := Lib.hid (HB.out.trans (hb5.mono hsz))
      have hsz4 := HB4.out.size
      clear hb4 hb5 HT a0 a1 a2 a3
      go_wp2_with (at_builtin; refine wp_append_F el_Str _ rfl (.tmp 12) (.tmp 15) rfl w.heap.size _ ys y rfl (by exact H4.out.alloc _) ⟨w4.heap.size, 0, none⟩ 1 rfl (lit_F strC w4 y _ _ rfl) hroom (by simp; omega) ?_; intro v' w6 hown' hb6 hgrow hor; have HO6 := Lib.hid hown'; have HB6 := Lib.hid ((HB4.out.alloc hsz4 (.cells #[.string y] 9)).trans hb6); clear hown' hb6 hgrow hor)
      go_roundw
      case rel =>
        refine ⟨k + 1, by omega, by go_num, Lib.hid ?_, HB6.out⟩
        have e : (l.take (k + 1)).map (fun x => (⟨(liX x.li).toArray⟩ : ByteArray)) = ys ++ [y] := by
          rw [List.take_add_one, HX.out, List.map_append, ← HYS.out, HY.out]
          rfl
        rw [e]
        exact HO6.out
      case measure => simp [intOf]; omega
    · have hk' : k = l.length := by omega
      subst hk'
      have HL : Hid (∃ v, v = Value.slice oA l.length oc ∧ OwnSt wr w.heap.size v (l.map fun x => ⟨(liX x.li).toArray⟩)) := Lib.hid ⟨_, rfl, by have h := HO.out; rw [List.take_length] at h; exact h⟩
      clear hb HO hln
      go_wp2
      go_ret
      obtain ⟨v, hv, ho⟩ := HL.out
      exact ⟨v, by rw [hv]; rfl, ho, HB.out⟩

theorem flat_strC : ∀ xs : List ByteArray, xs.flatMap strC = xs.map Value.string
  | [] => rfl
  | x :: r => by rw [List.flatMap_cons, flat_strC r]; rfl
theorem p_clone (v : Value) (xs : List ByteArray) (w : World) (h : StrsAt w v xs) (hn : xs.length ≤ 400) :
    Calls Tryz.prog 44 #[v] w fun e w' => ∃ u, e = .returned u ∧ OwnSt w' w.heap.size u xs ∧ Below w.heap.size w w' := by
  rcases h with ⟨rfl, rfl⟩ | ⟨g, c, rfl, hc, hg, he⟩
  · refine (Tryz.slices_Clone_string_nil 0 0 w).mono ?_
    rintro e w' ⟨rfl, rfl⟩
    exact ⟨_, rfl, OwnF.nil _ _, Below.refl _ _⟩
  · refine (Tryz.slices_Clone_string g 0 xs.length c xs w (Nat.le_refl _) (by omega) (fun j hj => ?_)).mono ?_
    · rw [Nat.zero_add, List.getD_eq_getElem?_getD, List.getElem?_eq_getElem hj]
      exact els_cell he j _ (List.getElem?_eq_getElem hj)
    · rintro e w' ⟨u, rfl, ho, _, hb⟩
      refine ⟨u, rfl, ?_, hb⟩
      have e1 : (xs.take xs.length).map Value.string = xs.flatMap strC := by rw [List.take_length, flat_strC]
      rw [e1] at ho
      exact ho
theorem p_fmt (n : Int) (h1 : -9223372036854775808 ≤ n) (h2 : n ≤ 9223372036854775807) (w : World) (hv : Vars w) :
    Calls Tryz.prog 48 #[.int .i64 n, .int .i64 10] w fun e w' => e = .returned (.string ⟨(Lib.itoa n).toArray⟩) ∧ Below w.heap.size w w' := by
  refine (Tryz.strconv_FormatInt_10 n h1 h2 w hv.1).mono ?_
  rintro e w2 ⟨rfl, kd, os, rfl⟩
  exact ⟨rfl, below_grow _ _ _⟩

/-! ### lengths -/
theorem agX_len (ag : Int) (ofv : ByteArray) (h : 1 < ag → ofv.size ≤ 300) : (agX ag ofv).length ≤ 602 := by
  unfold agX
  by_cases h1 : ag = 1
  · rw [if_pos h1]; exact Nat.le_of_ble_eq_true rfl
  · rw [if_neg h1]
    by_cases h2 : ag < 1
    · rw [if_pos h2]; exact Nat.zero_le _
    · rw [if_neg h2]
      have hx := agoX_len ag
      have ho : ofv.data.toList.length ≤ 300 := h (by omega)
      have := joinS_len [32] 300 [agoX ag, ofv.data.toList] (fun x hx2 => by
        simp only [List.mem_cons, List.not_mem_nil, or_false] at hx2
        rcases hx2 with rfl | rfl
        · exact hx
        · exact ho)
      have h9 : [agoX ag, ofv.data.toList].length * (300 + ([32] : List UInt8).length) = 602 := by simp
      rw [h9] at this
      exact this
end
end Go.Proofs.YtkobfngnnblpeaaGreatDoor
namespace Go.Proofs.YtkobfngnnblpeaaGreatDoor
section
open Go.RowKit

theorem txB_map {α : Type} (l : List α) (f : α → List UInt8) : txB (l.map fun x => (⟨(f x).toArray⟩ : ByteArray)) = l.map f := by
  unfold txB
  rw [List.map_map]
  exact List.map_congr_left fun x _ => rfl
theorem lit_FL (w : World) (ys : List ByteArray) (cs : Array Value) (h : cs.toList = ys.flatMap strC) : ∀ j u, (ys.flatMap strC)[j]? = some u → (w.alloc (.cells cs 9)).cell? ((⟨w.heap.size, 0, none⟩ : Addr).add j) = some u := by
  intro j u hj
  have hn := heap_alloc_new w (.cells cs 9)
  rw [add_zero_g, cell_of_row _ w.heap.size j _ 9 (0, 0) hn, ← hj, ← h, Array.getElem?_toList]
/-- What text asks of the functions that it calls. -/
structure TxK (w : World) (k : Int) (nm : ByteArray) (hA : Option Addr) (hc : Nat) (head : List ByteArray) (ag : Int) (ofv : ByteArray) (lim : Int) (bA : Option Addr) (bc : Nat) (nb : Nat) (ax : ByteArray) (hd : List ByteArray) (kx cx lx jx : ByteArray) (body : List ByteArray) : Prop where
  clone : ∀ W, Below w.heap.size w W → Calls Tryz.prog 44 #[.slice hA head.length hc] W fun e w' => ∃ u, e = .returned u ∧ OwnSt w' W.heap.size u head ∧ Below W.heap.size W w'
  agg : ∀ W, Calls Tryz.prog 45 #[.agg #[.int .i64 k, .string nm, .slice hA head.length hc, .int .i64 ag, .string ofv, .int .i64 lim, .slice bA nb bc]] W fun e w' => e = .returned (.string ax) ∧ Below W.heap.size W w'
  kind : ∀ W, Calls Tryz.prog 46 #[.int .i64 k] W fun e w' => e = .returned (.string kx) ∧ w' = W
  call : ∀ W v, StrsAt W v hd → Calls Tryz.prog 47 #[.string nm, v] W fun e w' => e = .returned (.string cx) ∧ Below W.heap.size W w'
  fmt : ∀ W, Below w.heap.size w W → Calls Tryz.prog 48 #[.int .i64 lim, .int .i64 10] W fun e w' => e = .returned (.string lx) ∧ Below W.heap.size W w'
  lits : ∀ W, Below w.heap.size w W → Calls Tryz.prog 51 #[.slice bA nb bc] W fun e w' => ∃ v, e = .returned v ∧ OwnSt w' W.heap.size v body ∧ Below W.heap.size W w'
  list : ∀ W v, StrsAt W v body → Calls Tryz.prog 50 #[v] W fun e w' => e = .returned (.string jx) ∧ Below W.heap.size W w'

set_option maxRecDepth 100000 in
set_option maxHeartbeats 2000000 in
theorem text_way (w : World) (k : Int) (nm : ByteArray) (hA : Option Addr) (hc : Nat) (head : List ByteArray) (ag : Int) (ofv : ByteArray) (lim : Int) (bA : Option Addr) (bc : Nat) (nb : Nat) (ax : ByteArray) (hd : List ByteArray) (kx cx lx jx : ByteArray) (body : List ByteArray)
    (K : TxK w k nm hA hc head ag ofv lim bA bc nb ax hd kx cx lx jx body) (hh : head.length ≤ 400) (hhd : hd = if ag = 0 then head else head ++ [ax]) (T : ByteArray)
    (HW : ∀ W v, StrsAt W v (if k = 3 then [kx, cx, ⟨#[108, 105, 109, 105, 116]⟩, lx, ⟨#[105, 102]⟩, jx] else [kx, cx, ⟨#[105, 102]⟩, jx]) → Calls Tryz.prog 49 #[v] W fun e w' => e = .returned (.string T) ∧ Below W.heap.size W w') :
    Calls Tryz.prog 26 #[.agg #[.int .i64 k, .string nm, .slice hA head.length hc, .int .i64 ag, .string ofv, .int .i64 lim, .slice bA nb bc]] w fun e w' => e = .returned (.string T) ∧ Below w.heap.size w w' := by
  have HK := Lib.hid K
  have HWW := Lib.hid HW
  clear K HW
  obtain ⟨W0, hW0⟩ : ∃ W0, W0 = w.alloc (.cells #[.int .i64 k, .string nm, .slice hA head.length hc, .int .i64 ag, .string ofv, .int .i64 lim, .slice bA nb bc] 35) := ⟨_, rfl⟩
  have hb0 : Below w.heap.size w W0 := by rw [hW0]; exact one_new _ _
  have hbx : W0.heap[w.heap.size]? = some (.cells #[.int .i64 k, .string nm, .slice hA head.length hc, .int .i64 ag, .string ofv, .int .i64 lim, .slice bA nb bc] 35 (0, 0)) := by rw [hW0]; exact heap_alloc_new _ _
  have hW0s : W0.heap.size = w.heap.size + 1 := by rw [hW0]; exact World.size_alloc _ _
  have HC : Hid (∀ W, Below (w.heap.size + 1) W0 W → W.cell? ⟨w.heap.size, 0, none⟩ = some (.int .i64 k) ∧ W.cell? ⟨w.heap.size, 1, none⟩ = some (.string nm) ∧ W.cell? ⟨w.heap.size, 2, none⟩ = some (.slice hA head.length hc) ∧ W.cell? ⟨w.heap.size, 3, none⟩ = some (.int .i64 ag) ∧ W.cell? ⟨w.heap.size, 4, none⟩ = some (.string ofv) ∧ W.cell? ⟨w.heap.size, 5, none⟩ = some (.int .i64 lim) ∧ W.cell? ⟨w.heap.size, 6, none⟩ = some (.slice bA nb bc)) := Lib.hid fun W hW => by
    have hk := (hW.block w.heap.size (by omega)).trans hbx
    exact box7p_of hk
  have HB0 := Lib.hid hb0
  have HR0 : Hid (Below (w.heap.size + 1) W0 W0) := Lib.hid (Below.refl _ _)
  have HZ0 := Lib.hid hW0s
  subst hW0
  clear hb0 hbx hW0s
  go_enter Tryz.func26, Tryz.ntmps26
  go_wp2_with fail
  refine (HK.out.clone _ HB0.out).mono ?_
  rintro e w1 ⟨u, rfl, ho1, hb1⟩
  rw [HZ0.out] at hb1 ho1
  obtain ⟨A1, c1, rfl⟩ := ho1.shape
  have HO1 := Lib.hid ho1
  have HB1 := Lib.hid hb1
  obtain ⟨f0, f1, f2, f3, f4, f5, f6⟩ := HC.out _ hb1
  have hsz1 := hb1.size
  rw [HZ0.out] at hsz1
  clear ho1 hb1
  obtain ⟨W0w, hW0w⟩ : ∃ W0w, W0w = w.alloc (.cells #[.int .i64 k, .string nm, .slice hA head.length hc, .int .i64 ag, .string ofv, .int .i64 lim, .slice bA nb bc] 35) := ⟨_, rfl⟩
  rw [← hW0w] at HC HB0 HR0 HZ0 HB1
  clear hW0w
  by_cases ha : ag = 0
  · rw [if_pos ha] at hhd
    subst hhd
    have ba : (ag != 0) = false := by simpa using ha
    have ba2 : (ag == 0) = true := by simpa using ha
    clear ha
    by_cases hk3 : k = 3
    · rw [if_pos hk3] at HWW
      have bk : (k == 3) = true := by simpa using hk3
      clear hk3
      have HS4 := Lib.hid (OwnF.strs HO1.out)
      go_wp2_with fail
      go_region_held3 (fun w' : World => w'.cell? ⟨w.heap.size, 0, none⟩ = some (Value.int .i64 k) ∧ w'.cell? ⟨w.heap.size, 1, none⟩ = some (Value.string nm)) (go_keep)
        (first
          | (go_at_call 46; refine (HK.out.kind _).mono ?_; rintro e w2 ⟨rfl, rfl⟩)
          | (go_at_call 47; refine (HK.out.call _ _ (by exact HS4.out.below ((Below.refl _ _).drew))).mono ?_; rintro e w4 ⟨rfl, hb4⟩; have HB4 := Lib.hid ((Below.refl w1.heap.size w1).drew.trans hb4); have HB4w := Lib.hid (HB1.out.trans (HB4.out.mono hsz1)); obtain ⟨g0, g1, g2, g3, g4, g5, g6⟩ := HC.out _ HB4w.out; clear hb4))
      all_goals
        have hsz4 : w.heap.size + 1 ≤ w4.heap.size := HZ0.out ▸ HB4w.out.size
        have HO4 := Lib.hid (own_lit w4 (w.heap.size + 1) [kx, cx] #[.string kx, .string cx] rfl 2 rfl hsz4 (by omega))
        have hb4a : Below (w.heap.size + 1) W0w (w4.alloc (.cells #[.string kx, .string cx] 9)) := HB4w.out.alloc hsz4 _
        have HB4a := Lib.hid hb4a
        obtain ⟨m0, m1, m2, m3, m4, m5, m6⟩ := HC.out _ hb4a
        have hsz4a : w.heap.size + 1 ≤ (w4.alloc (.cells #[.string kx, .string cx] 9)).heap.size := by rw [World.size_alloc]; omega
        clear hb4a g0 g1 g2 g3 g4 g5 g6 f0 f1 f2 f3 f4 f5 f6
        have hbf : Below w.heap.size w (w4.alloc (.cells #[.string kx, .string cx] 9)) := HB0.out.trans (HB4a.out.mono (by omega))
        have HBF := Lib.hid hbf
        clear hbf
        go_wp2_with fail
        refine (HK.out.fmt _ HBF.out).mono ?_
        rintro e w5 ⟨rfl, hb5⟩
        have HO5 := Lib.hid (HO4.out.below hb5)
        have HB5 := Lib.hid (HB4a.out.trans (hb5.mono hsz4a))
        have hsz5 : w.heap.size + 1 ≤ w5.heap.size := Nat.le_trans hsz4a hb5.size
        obtain ⟨r0, r1, r2, r3, r4, r5, r6⟩ := HC.out _ HB5.out
        clear hb5 m0 m1 m2 m3 m4 m5 m6 HO4 hsz4a
        have hq5 : w.heap.size + 1 ≤ (w5.alloc (.cells #[.string ⟨#[108, 105, 109, 105, 116]⟩, .string lx] 9)).heap.size := by rw [World.size_alloc]; omega
        have HB5a := Lib.hid (HB5.out.alloc hsz5 (.cells #[.string ⟨#[108, 105, 109, 105, 116]⟩, .string lx] 9))
        go_wp2_with (at_builtin; refine wp_append_FL el_Str _ rfl (.tmp 27) (.tmp 31) rfl (w.heap.size + 1) (.slice (some ⟨w4.heap.size, 0, none⟩) 2 2) [kx, cx] [⟨#[108, 105, 109, 105, 116]⟩, lx] rfl (by exact HO5.out.alloc _) ⟨w5.heap.size, 0, none⟩ 2 2 rfl rfl (lit_FL w5 _ _ rfl) (by simp) hq5 ?_; intro v' w6 hown' hb6 hgrow hor; obtain ⟨A6, c6, hv6⟩ := hown'.shape; have hv6' : v' = .slice A6 4 c6 := hv6; subst hv6'; have HO6p := Lib.hid hown'; have HB6p := Lib.hid (HB5a.out.trans hb6); obtain ⟨t0, t1, t2, t3, t4, t5, t6⟩ := HC.out _ HB6p.out; clear hown' hb6 hgrow hor hv6)
        have hszp : w.heap.size + 1 ≤ w6.heap.size := HZ0.out ▸ HB6p.out.size
        have hbl : Below w.heap.size w w6 := HB0.out.trans (HB6p.out.mono (by omega))
        have HBL := Lib.hid hbl
        clear hbl
        skip
        refine (HK.out.lits _ HBL.out).mono ?_
        rintro e w7 ⟨v7, rfl, ho7, hb7⟩
        obtain ⟨A7, c7, rfl⟩ := ho7.shape
        have HS7 := Lib.hid (OwnF.strs ho7)
        have HO7 := Lib.hid (HO6p.out.below hb7)
        have HB7 := Lib.hid (HB6p.out.trans (hb7.mono hszp))
        have hsz7 := Nat.le_trans hszp hb7.size
        clear ho7 hb7
        go_wp2_with fail
        refine (HK.out.list _ _ HS7.out).mono ?_
        rintro e w8 ⟨rfl, hb8⟩
        have HO8 := Lib.hid (HO7.out.below hb8)
        have HB8 := Lib.hid (HB7.out.trans (hb8.mono hsz7))
        have hsz8 := Nat.le_trans hsz7 hb8.size
        clear hb8
        have hq8 : w.heap.size + 1 ≤ (w8.alloc (.cells #[.string ⟨#[105, 102]⟩, .string jx] 9)).heap.size := by rw [World.size_alloc]; omega
        have HB8a := Lib.hid (HB8.out.alloc hsz8 (.cells #[.string ⟨#[105, 102]⟩, .string jx] 9))
        go_wp2_with (at_builtin; refine wp_append_FL el_Str _ rfl (.tmp 33) (.tmp 38) rfl (w.heap.size + 1) (.slice A6 4 c6) ([kx, cx] ++ [⟨#[108, 105, 109, 105, 116]⟩, lx]) [⟨#[105, 102]⟩, jx] rfl (by exact HO8.out.alloc _) ⟨w8.heap.size, 0, none⟩ 2 2 rfl rfl (lit_FL w8 _ _ rfl) (by simp) hq8 ?_; intro v' w9 hown' hb9 hgrow hor; obtain ⟨A9, c9, hv9⟩ := hown'.shape; have hv9' : v' = .slice A9 6 c9 := hv9; subst hv9'; have HS9 := Lib.hid (OwnF.strs hown'); have HB9 := Lib.hid (HB8a.out.trans hb9); clear hown' hb9 hgrow hor hv9)
        refine (HWW.out _ _ HS9.out).mono ?_
        rintro e w10 ⟨rfl, hb10⟩
        have hs9 : w.heap.size + 1 ≤ w9.heap.size := HZ0.out ▸ HB9.out.size
        have HBE := Lib.hid (HB0.out.trans ((HB9.out.trans (hb10.mono hs9)).mono (by omega)))
        clear hb10
        go_wp2
        go_ret
        exact ⟨rfl, HBE.out⟩
    · rw [if_neg hk3] at HWW
      have bk : (k == 3) = false := by simpa using hk3
      clear hk3
      have HS4 := Lib.hid (OwnF.strs HO1.out)
      go_wp2_with fail
      go_region_held3 (fun w' : World => w'.cell? ⟨w.heap.size, 0, none⟩ = some (Value.int .i64 k) ∧ w'.cell? ⟨w.heap.size, 1, none⟩ = some (Value.string nm)) (go_keep)
        (first
          | (go_at_call 46; refine (HK.out.kind _).mono ?_; rintro e w2 ⟨rfl, rfl⟩)
          | (go_at_call 47; refine (HK.out.call _ _ (by exact HS4.out.below ((Below.refl _ _).drew))).mono ?_; rintro e w4 ⟨rfl, hb4⟩; have HB4 := Lib.hid ((Below.refl w1.heap.size w1).drew.trans hb4); have HB4w := Lib.hid (HB1.out.trans (HB4.out.mono hsz1)); obtain ⟨g0, g1, g2, g3, g4, g5, g6⟩ := HC.out _ HB4w.out; clear hb4))
      all_goals
        have hsz4 : w.heap.size + 1 ≤ w4.heap.size := HZ0.out ▸ HB4w.out.size
        have HO4 := Lib.hid (own_lit w4 (w.heap.size + 1) [kx, cx] #[.string kx, .string cx] rfl 2 rfl hsz4 (by omega))
        have hb4a : Below (w.heap.size + 1) W0w (w4.alloc (.cells #[.string kx, .string cx] 9)) := HB4w.out.alloc hsz4 _
        have HB4a := Lib.hid hb4a
        obtain ⟨m0, m1, m2, m3, m4, m5, m6⟩ := HC.out _ hb4a
        have hsz4a : w.heap.size + 1 ≤ (w4.alloc (.cells #[.string kx, .string cx] 9)).heap.size := by rw [World.size_alloc]; omega
        clear hb4a g0 g1 g2 g3 g4 g5 g6 f0 f1 f2 f3 f4 f5 f6
        have hszp := hsz4a
        have hbl : Below w.heap.size w (w4.alloc (.cells #[.string kx, .string cx] 9)) := HB0.out.trans (HB4a.out.mono (by omega))
        have HBL := Lib.hid hbl
        clear hbl
        go_wp2_with fail
        refine (HK.out.lits _ HBL.out).mono ?_
        rintro e w7 ⟨v7, rfl, ho7, hb7⟩
        obtain ⟨A7, c7, rfl⟩ := ho7.shape
        have HS7 := Lib.hid (OwnF.strs ho7)
        have HO7 := Lib.hid (HO4.out.below hb7)
        have HB7 := Lib.hid (HB4a.out.trans (hb7.mono hszp))
        have hsz7 := Nat.le_trans hszp hb7.size
        clear ho7 hb7
        go_wp2_with fail
        refine (HK.out.list _ _ HS7.out).mono ?_
        rintro e w8 ⟨rfl, hb8⟩
        have HO8 := Lib.hid (HO7.out.below hb8)
        have HB8 := Lib.hid (HB7.out.trans (hb8.mono hsz7))
        have hsz8 := Nat.le_trans hsz7 hb8.size
        clear hb8
        have hq8 : w.heap.size + 1 ≤ (w8.alloc (.cells #[.string ⟨#[105, 102]⟩, .string jx] 9)).heap.size := by rw [World.size_alloc]; omega
        have HB8a := Lib.hid (HB8.out.alloc hsz8 (.cells #[.string ⟨#[105, 102]⟩, .string jx] 9))
        go_wp2_with (at_builtin; refine wp_append_FL el_Str _ rfl (.tmp 33) (.tmp 38) rfl (w.heap.size + 1) (.slice (some ⟨w4.heap.size, 0, none⟩) 2 2) [kx, cx] [⟨#[105, 102]⟩, jx] rfl (by exact HO8.out.alloc _) ⟨w8.heap.size, 0, none⟩ 2 2 rfl rfl (lit_FL w8 _ _ rfl) (by simp) hq8 ?_; intro v' w9 hown' hb9 hgrow hor; obtain ⟨A9, c9, hv9⟩ := hown'.shape; have hv9' : v' = .slice A9 4 c9 := hv9; subst hv9'; have HS9 := Lib.hid (OwnF.strs hown'); have HB9 := Lib.hid (HB8a.out.trans hb9); clear hown' hb9 hgrow hor hv9)
        refine (HWW.out _ _ HS9.out).mono ?_
        rintro e w10 ⟨rfl, hb10⟩
        have hs9 : w.heap.size + 1 ≤ w9.heap.size := HZ0.out ▸ HB9.out.size
        have HBE := Lib.hid (HB0.out.trans ((HB9.out.trans (hb10.mono hs9)).mono (by omega)))
        clear hb10
        go_wp2
        go_ret
        exact ⟨rfl, HBE.out⟩
  · rw [if_neg ha] at hhd
    have ba : (ag != 0) = true := by simpa using ha
    have ba2 : (ag == 0) = false := by simpa using ha
    clear ha
    go_wp2_with fail
    refine (HK.out.agg _).mono ?_
    rintro e w2 ⟨rfl, hb2⟩
    have HO2 := Lib.hid (HO1.out.below hb2)
    have HB2 := Lib.hid (HB1.out.trans (hb2.mono hsz1))
    have hsz2 := Nat.le_trans hsz1 hb2.size
    clear hb2 f0 f1 f2 f3 f4 f5 f6
    have hq2 : w.heap.size + 1 ≤ (w2.alloc (.cells #[.string ax] 9)).heap.size := by rw [World.size_alloc]; omega
    have HB2a := Lib.hid (HB2.out.alloc hsz2 (.cells #[.string ax] 9))
    have hroom : head.length ≤ 1000000 := by omega
    have hlen2 : (head ++ [ax]).length = head.length + 1 := by simp
    have HHD := Lib.hid hhd
    have HLL := Lib.hid hlen2
    clear hhd hlen2
    go_wp2_with (at_builtin; refine wp_append_F el_Str _ rfl (.tmp 11) (.tmp 14) rfl (w.heap.size + 1) (.slice A1 head.length c1) head ax rfl (by exact HO2.out.alloc _) ⟨w2.heap.size, 0, none⟩ 1 rfl (lit_F strC w2 ax _ _ rfl) hroom hq2 ?_; intro v' w6 hown' hb6 hgrow hor; obtain ⟨A3, c3, hv3⟩ := hown'.shape; rw [HLL.out] at hv3; subst hv3; rw [← HHD.out] at hown'; have HO6 := Lib.hid hown'; have HB6 := Lib.hid (HB2a.out.trans hb6); obtain ⟨s0, s1, s2, s3, s4, s5, s6⟩ := HC.out _ HB6.out; clear hown' hb6 hgrow hor)
    have hsz6 : w.heap.size + 1 ≤ w6.heap.size := HZ0.out ▸ HB6.out.size
    by_cases hk3 : k = 3
    · rw [if_pos hk3] at HWW
      have bk : (k == 3) = true := by simpa using hk3
      clear hk3
      have HS4 := Lib.hid (OwnF.strs HO6.out)
      go_wp2_with fail
      go_region_held3 (fun w' : World => w'.cell? ⟨w.heap.size, 0, none⟩ = some (Value.int .i64 k) ∧ w'.cell? ⟨w.heap.size, 1, none⟩ = some (Value.string nm)) (go_keep)
        (first
          | (go_at_call 46; refine (HK.out.kind _).mono ?_; rintro e w2 ⟨rfl, rfl⟩)
          | (go_at_call 47; refine (HK.out.call _ _ (by exact HS4.out.below ((Below.refl _ _).drew))).mono ?_; rintro e w4 ⟨rfl, hb4⟩; have HB4 := Lib.hid ((Below.refl w6.heap.size w6).drew.trans hb4); have HB4w := Lib.hid (HB6.out.trans (HB4.out.mono hsz6)); obtain ⟨g0, g1, g2, g3, g4, g5, g6⟩ := HC.out _ HB4w.out; clear hb4))
      all_goals
        have hsz4 : w.heap.size + 1 ≤ w4.heap.size := HZ0.out ▸ HB4w.out.size
        have HO4 := Lib.hid (own_lit w4 (w.heap.size + 1) [kx, cx] #[.string kx, .string cx] rfl 2 rfl hsz4 (by omega))
        have hb4a : Below (w.heap.size + 1) W0w (w4.alloc (.cells #[.string kx, .string cx] 9)) := HB4w.out.alloc hsz4 _
        have HB4a := Lib.hid hb4a
        obtain ⟨m0, m1, m2, m3, m4, m5, m6⟩ := HC.out _ hb4a
        have hsz4a : w.heap.size + 1 ≤ (w4.alloc (.cells #[.string kx, .string cx] 9)).heap.size := by rw [World.size_alloc]; omega
        clear hb4a g0 g1 g2 g3 g4 g5 g6 s0 s1 s2 s3 s4 s5 s6
        have hbf : Below w.heap.size w (w4.alloc (.cells #[.string kx, .string cx] 9)) := HB0.out.trans (HB4a.out.mono (by omega))
        have HBF := Lib.hid hbf
        clear hbf
        go_wp2_with fail
        refine (HK.out.fmt _ HBF.out).mono ?_
        rintro e w5 ⟨rfl, hb5⟩
        have HO5 := Lib.hid (HO4.out.below hb5)
        have HB5 := Lib.hid (HB4a.out.trans (hb5.mono hsz4a))
        have hsz5 : w.heap.size + 1 ≤ w5.heap.size := Nat.le_trans hsz4a hb5.size
        obtain ⟨r0, r1, r2, r3, r4, r5, r6⟩ := HC.out _ HB5.out
        clear hb5 m0 m1 m2 m3 m4 m5 m6 HO4 hsz4a
        have hq5 : w.heap.size + 1 ≤ (w5.alloc (.cells #[.string ⟨#[108, 105, 109, 105, 116]⟩, .string lx] 9)).heap.size := by rw [World.size_alloc]; omega
        have HB5a := Lib.hid (HB5.out.alloc hsz5 (.cells #[.string ⟨#[108, 105, 109, 105, 116]⟩, .string lx] 9))
        go_wp2_with (at_builtin; refine wp_append_FL el_Str _ rfl (.tmp 27) (.tmp 31) rfl (w.heap.size + 1) (.slice (some ⟨w4.heap.size, 0, none⟩) 2 2) [kx, cx] [⟨#[108, 105, 109, 105, 116]⟩, lx] rfl (by exact HO5.out.alloc _) ⟨w5.heap.size, 0, none⟩ 2 2 rfl rfl (lit_FL w5 _ _ rfl) (by simp) hq5 ?_; intro v' w6 hown' hb6 hgrow hor; obtain ⟨A6, c6, hv6⟩ := hown'.shape; have hv6' : v' = .slice A6 4 c6 := hv6; subst hv6'; have HO6p := Lib.hid hown'; have HB6p := Lib.hid (HB5a.out.trans hb6); obtain ⟨t0, t1, t2, t3, t4, t5, t6⟩ := HC.out _ HB6p.out; clear hown' hb6 hgrow hor hv6)
        have hszp : w.heap.size + 1 ≤ w6.heap.size := HZ0.out ▸ HB6p.out.size
        have hbl : Below w.heap.size w w6 := HB0.out.trans (HB6p.out.mono (by omega))
        have HBL := Lib.hid hbl
        clear hbl
        skip
        refine (HK.out.lits _ HBL.out).mono ?_
        rintro e w7 ⟨v7, rfl, ho7, hb7⟩
        obtain ⟨A7, c7, rfl⟩ := ho7.shape
        have HS7 := Lib.hid (OwnF.strs ho7)
        have HO7 := Lib.hid (HO6p.out.below hb7)
        have HB7 := Lib.hid (HB6p.out.trans (hb7.mono hszp))
        have hsz7 := Nat.le_trans hszp hb7.size
        clear ho7 hb7
        go_wp2_with fail
        refine (HK.out.list _ _ HS7.out).mono ?_
        rintro e w8 ⟨rfl, hb8⟩
        have HO8 := Lib.hid (HO7.out.below hb8)
        have HB8 := Lib.hid (HB7.out.trans (hb8.mono hsz7))
        have hsz8 := Nat.le_trans hsz7 hb8.size
        clear hb8
        have hq8 : w.heap.size + 1 ≤ (w8.alloc (.cells #[.string ⟨#[105, 102]⟩, .string jx] 9)).heap.size := by rw [World.size_alloc]; omega
        have HB8a := Lib.hid (HB8.out.alloc hsz8 (.cells #[.string ⟨#[105, 102]⟩, .string jx] 9))
        go_wp2_with (at_builtin; refine wp_append_FL el_Str _ rfl (.tmp 33) (.tmp 38) rfl (w.heap.size + 1) (.slice A6 4 c6) ([kx, cx] ++ [⟨#[108, 105, 109, 105, 116]⟩, lx]) [⟨#[105, 102]⟩, jx] rfl (by exact HO8.out.alloc _) ⟨w8.heap.size, 0, none⟩ 2 2 rfl rfl (lit_FL w8 _ _ rfl) (by simp) hq8 ?_; intro v' w9 hown' hb9 hgrow hor; obtain ⟨A9, c9, hv9⟩ := hown'.shape; have hv9' : v' = .slice A9 6 c9 := hv9; subst hv9'; have HS9 := Lib.hid (OwnF.strs hown'); have HB9 := Lib.hid (HB8a.out.trans hb9); clear hown' hb9 hgrow hor hv9)
        refine (HWW.out _ _ HS9.out).mono ?_
        rintro e w10 ⟨rfl, hb10⟩
        have hs9 : w.heap.size + 1 ≤ w9.heap.size := HZ0.out ▸ HB9.out.size
        have HBE := Lib.hid (HB0.out.trans ((HB9.out.trans (hb10.mono hs9)).mono (by omega)))
        clear hb10
        go_wp2
        go_ret
        exact ⟨rfl, HBE.out⟩
    · rw [if_neg hk3] at HWW
      have bk : (k == 3) = false := by simpa using hk3
      clear hk3
      have HS4 := Lib.hid (OwnF.strs HO6.out)
      go_wp2_with fail
      go_region_held3 (fun w' : World => w'.cell? ⟨w.heap.size, 0, none⟩ = some (Value.int .i64 k) ∧ w'.cell? ⟨w.heap.size, 1, none⟩ = some (Value.string nm)) (go_keep)
        (first
          | (go_at_call 46; refine (HK.out.kind _).mono ?_; rintro e w2 ⟨rfl, rfl⟩)
          | (go_at_call 47; refine (HK.out.call _ _ (by exact HS4.out.below ((Below.refl _ _).drew))).mono ?_; rintro e w4 ⟨rfl, hb4⟩; have HB4 := Lib.hid ((Below.refl w6.heap.size w6).drew.trans hb4); have HB4w := Lib.hid (HB6.out.trans (HB4.out.mono hsz6)); obtain ⟨g0, g1, g2, g3, g4, g5, g6⟩ := HC.out _ HB4w.out; clear hb4))
      all_goals
        have hsz4 : w.heap.size + 1 ≤ w4.heap.size := HZ0.out ▸ HB4w.out.size
        have HO4 := Lib.hid (own_lit w4 (w.heap.size + 1) [kx, cx] #[.string kx, .string cx] rfl 2 rfl hsz4 (by omega))
        have hb4a : Below (w.heap.size + 1) W0w (w4.alloc (.cells #[.string kx, .string cx] 9)) := HB4w.out.alloc hsz4 _
        have HB4a := Lib.hid hb4a
        obtain ⟨m0, m1, m2, m3, m4, m5, m6⟩ := HC.out _ hb4a
        have hsz4a : w.heap.size + 1 ≤ (w4.alloc (.cells #[.string kx, .string cx] 9)).heap.size := by rw [World.size_alloc]; omega
        clear hb4a g0 g1 g2 g3 g4 g5 g6 s0 s1 s2 s3 s4 s5 s6
        have hszp := hsz4a
        have hbl : Below w.heap.size w (w4.alloc (.cells #[.string kx, .string cx] 9)) := HB0.out.trans (HB4a.out.mono (by omega))
        have HBL := Lib.hid hbl
        clear hbl
        go_wp2_with fail
        refine (HK.out.lits _ HBL.out).mono ?_
        rintro e w7 ⟨v7, rfl, ho7, hb7⟩
        obtain ⟨A7, c7, rfl⟩ := ho7.shape
        have HS7 := Lib.hid (OwnF.strs ho7)
        have HO7 := Lib.hid (HO4.out.below hb7)
        have HB7 := Lib.hid (HB4a.out.trans (hb7.mono hszp))
        have hsz7 := Nat.le_trans hszp hb7.size
        clear ho7 hb7
        go_wp2_with fail
        refine (HK.out.list _ _ HS7.out).mono ?_
        rintro e w8 ⟨rfl, hb8⟩
        have HO8 := Lib.hid (HO7.out.below hb8)
        have HB8 := Lib.hid (HB7.out.trans (hb8.mono hsz7))
        have hsz8 := Nat.le_trans hsz7 hb8.size
        clear hb8
        have hq8 : w.heap.size + 1 ≤ (w8.alloc (.cells #[.string ⟨#[105, 102]⟩, .string jx] 9)).heap.size := by rw [World.size_alloc]; omega
        have HB8a := Lib.hid (HB8.out.alloc hsz8 (.cells #[.string ⟨#[105, 102]⟩, .string jx] 9))
        go_wp2_with (at_builtin; refine wp_append_FL el_Str _ rfl (.tmp 33) (.tmp 38) rfl (w.heap.size + 1) (.slice (some ⟨w4.heap.size, 0, none⟩) 2 2) [kx, cx] [⟨#[105, 102]⟩, jx] rfl (by exact HO8.out.alloc _) ⟨w8.heap.size, 0, none⟩ 2 2 rfl rfl (lit_FL w8 _ _ rfl) (by simp) hq8 ?_; intro v' w9 hown' hb9 hgrow hor; obtain ⟨A9, c9, hv9⟩ := hown'.shape; have hv9' : v' = .slice A9 4 c9 := hv9; subst hv9'; have HS9 := Lib.hid (OwnF.strs hown'); have HB9 := Lib.hid (HB8a.out.trans hb9); clear hown' hb9 hgrow hor hv9)
        refine (HWW.out _ _ HS9.out).mono ?_
        rintro e w10 ⟨rfl, hb10⟩
        have hs9 : w.heap.size + 1 ≤ w9.heap.size := HZ0.out ▸ HB9.out.size
        have HBE := Lib.hid (HB0.out.trans ((HB9.out.trans (hb10.mono hs9)).mono (by omega)))
        clear hb10
        go_wp2
        go_ret
        exact ⟨rfl, HBE.out⟩
end
end Go.Proofs.YtkobfngnnblpeaaGreatDoor
namespace Go.Proofs.YtkobfngnnblpeaaGreatDoor
section
open Go.RowKit

theorem hedX_txB (head : List ByteArray) (k : Int) (nm : ByteArray) (ag : Int) (ofv : ByteArray) (lim : Int) (body : List LiP) : txB (if ag = 0 then head else head ++ [⟨(agX ag ofv).toArray⟩]) = hedX ⟨k, nm, head, ag, ofv, lim, body⟩ := by
  unfold hedX
  by_cases h : ag = 0
  · rw [if_pos h, if_neg (by simpa using h), List.append_nil]
  · rw [if_neg h, if_pos (by simpa using h)]
    unfold txB
    rw [List.map_append]
    rfl
/-- What is asked of a rule that is printed. -/
structure RuG.Pr (G : RuG) (w : World) : Prop where
  ok : G.Ok w
  hs : StrsAt w (.slice G.hA G.head.length G.hc) G.head
  few : G.pl.Few
  wide : ∀ y ∈ G.pl.body, ∀ a ∈ y.args, Wide a.v
  l1 : -9223372036854775808 ≤ G.lim
  l2 : G.lim ≤ 9223372036854775807
  ws : ∀ t ∈ ruW G.pl, t.length ≤ 300
theorem RuG.Pr.below {G : RuG} {w w' : World} (h : G.Pr w) (hb : Below w.heap.size w w') : G.Pr w' := ⟨h.ok.below hb, h.hs.below hb, h.few, h.wide, h.l1, h.l2, h.ws⟩

set_option maxRecDepth 100000 in
set_option maxHeartbeats 1000000 in
theorem p_text (k : Int) (nm : ByteArray) (hA : Option Addr) (hc : Nat) (head : List ByteArray) (ag : Int) (ofv : ByteArray) (lim : Int) (bA : Option Addr) (bc : Nat) (body : List LmG) (w : World) (hv : Vars w) (hG : (⟨k, nm, hA, hc, head, ag, ofv, lim, bA, bc, body⟩ : RuG).Pr w) :
    Calls Tryz.prog 26 #[.agg #[.int .i64 k, .string nm, .slice hA head.length hc, .int .i64 ag, .string ofv, .int .i64 lim, .slice bA body.length bc]] w fun e w' => e = .returned (.string ⟨(ruT (RuG.pl (⟨k, nm, hA, hc, head, ag, ofv, lim, bA, bc, body⟩ : RuG))).toArray⟩) ∧ Below w.heap.size w w' := by
  obtain ⟨hok, hs, hfew, hwide, hl1, hl2, hws⟩ := hG
  have eW : ruW (RuG.pl (⟨k, nm, hA, hc, head, ag, ofv, lim, bA, bc, body⟩ : RuG)) = kindX k :: (callW nm.data.toList (hedL head ++ agL ag ofv) ++ ((if k = 3 then [wLimit, Lib.itoa lim] else []) ++ wIf :: comL ((body.map LmG.li).map liW))) := rfl
  rw [eW] at hws
  have hcall : ∀ t ∈ callW nm.data.toList (hedL head ++ agL ag ofv), t.length ≤ 300 := fun t ht => hws t (List.mem_cons_of_mem _ (List.mem_append.2 (.inl ht)))
  have hnm : nm.data.toList.length ≤ 300 := hcall _ List.mem_cons_self
  have hhead : ∀ y ∈ head, y.data.toList.length ≤ 300 := fun y hy => hcall _ (List.mem_cons_of_mem _ (List.mem_cons_of_mem _ (List.mem_append.2 (.inl (mem_comL _ [y.data.toList] _ (List.mem_append.2 (.inl (List.mem_map.2 ⟨y, hy, rfl⟩))) List.mem_cons_self)))))
  have hof : 1 < ag → ofv.size ≤ 300 := fun ha => by
    have e1 : agL ag ofv = [[agoX ag, ofv.data.toList]] := by
      unfold agL agW
      rw [if_neg (by omega), if_neg (by omega)]
    have := hcall ofv.data.toList (List.mem_cons_of_mem _ (List.mem_cons_of_mem _ (List.mem_append.2 (.inl (mem_comL _ [agoX ag, ofv.data.toList] _ (List.mem_append.2 (.inr (by rw [e1]; exact List.mem_cons_self))) (by simp))))))
    exact this
  have hlit : ∀ x ∈ body, ∀ t ∈ liW x.li, t.length ≤ 300 := fun x hx t ht => hws t (List.mem_cons_of_mem _ (List.mem_append.2 (.inr (List.mem_append.2 (.inr (List.mem_cons_of_mem _ (mem_comL _ (liW x.li) t (List.mem_map.2 ⟨x.li, List.mem_map.2 ⟨x, hx, rfl⟩, rfl⟩) ht)))))))
  have hh4 : head.length ≤ 400 := hfew.1
  have hb4 : body.length ≤ 400 := by have h : (body.map LmG.li).length ≤ 400 := hfew.2.1; rw [List.length_map] at h; exact h
  have hargs : ∀ x ∈ body, x.args.length ≤ 400 := fun x hx => hfew.2.2 x.li (List.mem_map.2 ⟨x, hx, rfl⟩)
  have hwd : ∀ x ∈ body, ∀ a ∈ x.args, Wide a.v := fun x hx => hwide x.li (List.mem_map.2 ⟨x, hx, rfl⟩)
  obtain ⟨hd, hhd⟩ : ∃ hd : List ByteArray, hd = if ag = 0 then head else head ++ [⟨(agX ag ofv).toArray⟩] := ⟨_, rfl⟩
  have htx : txB hd = hedX (RuG.pl (⟨k, nm, hA, hc, head, ag, ofv, lim, bA, bc, body⟩ : RuG)) := by rw [hhd]; exact hedX_txB head k nm ag ofv lim _
  have hagl := agX_len ag ofv hof
  have hdm : ∀ y ∈ txB hd, y.length ≤ 602 := fun y hy => by
    obtain ⟨z, hz, rfl⟩ := List.mem_map.1 hy
    rw [hhd] at hz
    split at hz
    · have := hhead z hz; omega
    · rcases List.mem_append.1 hz with hz | hz
      · have := hhead z hz; omega
      · rw [List.mem_singleton.1 hz]; exact hagl
  have hdl : hd.length ≤ 401 := by
    rw [hhd]
    split
    · omega
    · rw [List.length_append]; simp; omega
  have hdl2 : (txB hd).length ≤ 401 := by unfold txB; rw [List.length_map]; exact hdl
  have hj1 : (joinS [44, 32] (txB hd)).length ≤ 250000 := by
    have h1 := joinS_len [44, 32] 602 (txB hd) hdm
    have h2 : (txB hd).length * (602 + ([44, 32] : List UInt8).length) ≤ 401 * 604 := Nat.mul_le_mul_right 604 hdl2
    exact Nat.le_trans h1 (Nat.le_trans h2 (by decide))
  have hcx : (callX nm.data.toList (txB hd)).length ≤ 260000 := by
    unfold callX
    rw [List.length_append, List.length_append, List.length_append]
    simp only [List.length_cons, List.length_nil]
    omega
  have hbt : txB (body.map fun x => (⟨(liX x.li).toArray⟩ : ByteArray)) = (body.map LmG.li).map liX := by
    rw [txB_map, List.map_map]
    rfl
  have hj2 : (joinS [44, 32] ((body.map LmG.li).map liX)).length ≤ 53000000 := by
    have h1 := joinS_len [44, 32] 130000 ((body.map LmG.li).map liX) (fun y hy => by
      obtain ⟨z, hz, rfl⟩ := List.mem_map.1 hy
      obtain ⟨x, hx, rfl⟩ := List.mem_map.1 hz
      exact liX_len x.li (hlit x hx) (hargs x hx))
    rw [List.length_map, List.length_map] at h1
    have h2 : body.length * (130000 + ([44, 32] : List UInt8).length) ≤ 400 * 130002 := Nat.mul_le_mul_right 130002 hb4
    exact Nat.le_trans h1 (Nat.le_trans h2 (by decide))
  refine text_way w k nm hA hc head ag ofv lim bA bc body.length ⟨(agX ag ofv).toArray⟩ hd ⟨(kindX k).toArray⟩ ⟨(callX nm.data.toList (txB hd)).toArray⟩ ⟨(Lib.itoa lim).toArray⟩ ⟨(joinS [44, 32] ((body.map LmG.li).map liX)).toArray⟩ (body.map fun x => ⟨(liX x.li).toArray⟩) ?_ hh4 hhd _ ?_
  · refine ⟨fun W hW => p_clone _ head W (hs.below hW) hh4, fun W => p_aggregate k nm hA head.length hc ag ofv lim bA body.length bc W hof, fun W => p_kind k W, fun W v hW => p_call nm v hd W hW (by omega) (by omega) (by have : nm.data.toList.length = nm.size := rfl; omega), fun W hW => p_fmt lim hl1 hl2 W (hv.later hW), fun W hW => p_literals bA bc body W (hv.later hW) hb4 hargs hwd hlit (hok.2.below hW), fun W v hW => ?_⟩
    have h9 := p_list v (body.map fun x => ⟨(liX x.li).toArray⟩) W hW (by rw [List.length_map]; omega) (by rw [hbt]; omega)
    rw [hbt] at h9
    exact h9
  · intro W v hW
    have hkx : (kindX k).length ≤ 53000000 := by
      have := hws _ List.mem_cons_self
      omega
    have hT : ∀ L : List ByteArray, ruT (RuG.pl (⟨k, nm, hA, hc, head, ag, ofv, lim, bA, bc, body⟩ : RuG)) = joinS [32] (txB L) → (∀ y ∈ txB L, y.length ≤ 53000000) → L.length ≤ 6 → StrsAt W v L → Calls Tryz.prog 49 #[v] W fun e w' => e = .returned (.string ⟨(ruT (RuG.pl (⟨k, nm, hA, hc, head, ag, ofv, lim, bA, bc, body⟩ : RuG))).toArray⟩) ∧ Below W.heap.size W w' := fun L hL hm hl hW => by
      rw [hL]
      refine p_words v L W hW (by omega) ?_
      have h1 := joinS_len [32] 53000000 (txB L) hm
      have h0 : (txB L).length ≤ 6 := by unfold txB; rw [List.length_map]; exact hl
      have h2 : (txB L).length * (53000000 + ([32] : List UInt8).length) ≤ 6 * 53000001 := Nat.mul_le_mul_right 53000001 h0
      exact Nat.le_trans h1 (Nat.le_trans h2 (by decide))
    by_cases hk : k = 3
    · rw [if_pos hk] at hW
      refine hT _ ?_ ?_ (by simp) hW
      · unfold ruT parX limX
        rw [if_pos (show (RuG.pl (⟨k, nm, hA, hc, head, ag, ofv, lim, bA, bc, body⟩ : RuG)).k = 3 from hk), ← htx]
        rfl
      · have hit : (Lib.itoa lim).length ≤ 53000000 := by
          have := hws (Lib.itoa lim) (List.mem_cons_of_mem _ (List.mem_append.2 (.inr (List.mem_append.2 (.inl (by rw [if_pos hk]; simp))))))
          omega
        intro y hy
        simp only [txB, List.map_cons, List.map_nil, List.mem_cons, List.not_mem_nil, or_false] at hy
        rcases hy with rfl | rfl | rfl | rfl | rfl | rfl
        · exact hkx
        · exact Nat.le_trans hcx (by decide)
        · exact Nat.le_of_ble_eq_true rfl
        · exact hit
        · exact Nat.le_of_ble_eq_true rfl
        · exact hj2
    · rw [if_neg hk] at hW
      refine hT _ ?_ ?_ (by simp) hW
      · unfold ruT parX limX
        rw [if_neg (show ¬ (RuG.pl (⟨k, nm, hA, hc, head, ag, ofv, lim, bA, bc, body⟩ : RuG)).k = 3 from hk), ← htx]
        rfl
      · intro y hy
        simp only [txB, List.map_cons, List.map_nil, List.mem_cons, List.not_mem_nil, or_false] at hy
        rcases hy with rfl | rfl | rfl | rfl
        · exact hkx
        · exact Nat.le_trans hcx (by decide)
        · exact Nat.le_of_ble_eq_true rfl
        · exact hj2
end
end Go.Proofs.YtkobfngnnblpeaaGreatDoor
