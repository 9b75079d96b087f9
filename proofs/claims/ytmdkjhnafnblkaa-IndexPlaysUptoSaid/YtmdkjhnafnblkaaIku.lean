/-
  New of package index where a place can not be; Find and Has where no row has the key.
  Condition: no more than one million one hundred thousand places or cells of a key.
  Two keys have the same bytes just if they are the same, if one of them can be.
  No Go in it.
  The document's Alike of two lists (as XAlike, for the seat of index).
  No condition but that a list is no longer than it can be.
  An index of the program and the document's own, side by side, as rows are added to both.
  Condition: no more than two hundred rows, whose numbers have 64 bits; no more than one million one hundred thousand places.
-/
import Derived.Test.YtmdkjhnafnblkaaIxput
import Derived.Test.YtmdkjhnafnblkaaRaddo
import Derived.Deep.RegionHeld3
import Derived.BigQuiet
import Derived.Test.YtmdkjhnafnblkaaIkk
import Derived.Test.YtmdkjhnafnblkaaIxl
namespace Go.Proofs.Ytmdkjhnafnblkaa
open Go.RowKit Go.Maps

set_option maxHeartbeats 1000000 in
theorem i_new_no (A : Option Addr) (cols : List Int) (n c : Nat) (w : World) (hn : n = cols.length) (hl : cols.length ≤ 1100000) (hx : IntsAt w w.heap.size A cols) (hg : cols.any badC = true) :
    Calls Try.prog 18 #[.slice A n c] w fun e w' => e = .returned (.tuple #[.pointer none, .int .i64 2]) ∧ w = w' := by
  have HC := Lib.hid (contains_i A cols n c w hn (by omega) hx)
  rw [hg] at HC
  clear hn hx hg
  go_enter Try.func18, Try.ntmps18
  go_wp2_with fail
  refine HC.out.mono ?_
  rintro e w1 ⟨rfl, rfl⟩
  go_wp2
  go_ret2
  exact ⟨rfl, rfl⟩

set_option maxRecDepth 100000 in
set_option maxHeartbeats 1000000 in
theorem i_find_no (x b : Nat) (D : DataW Value) (A : Option Addr) (c : Nat) (cols : List Int) (S : List Sh) (Ak : Option Addr) (ks : List V) (n ck : Nat) (w : World) (hI : IdxB w x b D A c cols S) (hf : findK S (markB ks) = none) (hn : n = ks.length) (hkl : n ≤ 1100000) (hw : WideR ks) (hr : RowAt w w.heap.size Ak ks) :
    Calls Try.prog 25 #[.pointer (some ⟨x, 0, none⟩), .slice Ak n ck] w fun e w' => e = .returned (.slice none 0 0) ∧ Below w.heap.size w w' := by
  have HS := Lib.hid (i_shelf x b D A c cols S Ak ks n ck w hI hn hkl hw hr)
  rw [hf] at HS
  have HS2 : Hid (Calls Try.prog 95 #[.pointer (some ⟨x, 0, none⟩), .slice Ak n ck] w fun e w' => e = .returned (.pointer none) ∧ Below w.heap.size w w') := HS
  clear hf hn hkl hw hr HS hI
  go_enter Try.func25, Try.ntmps25
  go_wp2_with fail
  refine HS2.out.mono ?_
  rintro e w1 ⟨rfl, hb1⟩
  have HB1 := Lib.hid hb1
  clear hb1
  go_wp2
  go_ret
  exact ⟨rfl, HB1.out⟩
set_option maxRecDepth 100000 in
set_option maxHeartbeats 1000000 in
theorem i_has_no (x b : Nat) (D : DataW Value) (A : Option Addr) (c : Nat) (cols : List Int) (S : List Sh) (Ak : Option Addr) (ks : List V) (n ck : Nat) (w : World) (hI : IdxB w x b D A c cols S) (hf : findK S (markB ks) = none) (hn : n = ks.length) (hkl : n ≤ 1100000) (hw : WideR ks) (hr : RowAt w w.heap.size Ak ks) :
    Calls Try.prog 27 #[.pointer (some ⟨x, 0, none⟩), .slice Ak n ck] w fun e w' => e = .returned (.int .i64 0) ∧ Below w.heap.size w w' := by
  have HS := Lib.hid (i_shelf x b D A c cols S Ak ks n ck w hI hn hkl hw hr)
  rw [hf] at HS
  have HS2 : Hid (Calls Try.prog 95 #[.pointer (some ⟨x, 0, none⟩), .slice Ak n ck] w fun e w' => e = .returned (.pointer none) ∧ Below w.heap.size w w') := HS
  clear hf hn hkl hw hr HS hI
  go_enter Try.func27, Try.ntmps27
  go_wp2_with fail
  refine HS2.out.mono ?_
  rintro e w1 ⟨rfl, hb1⟩
  have HB1 := Lib.hid hb1
  clear hb1
  go_wp2
  go_ret
  exact ⟨rfl, HB1.out⟩
open Go.RowKit

theorem told_right9 {v : V} (h : rightV v = true) : toldV v = v := by
  have t0 : ∀ s : ByteArray, s.size = 0 → s = ⟨#[]⟩ := by
    intro s hs
    obtain ⟨⟨l⟩⟩ := s
    have : l = [] := by simpa [ByteArray.size] using hs
    rw [this]
  obtain ⟨k, f, n, t⟩ := v
  simp only [rightV, Bool.and_eq_true, Bool.or_eq_true, decide_eq_true_eq, beq_iff_eq, Bool.not_eq_true'] at h
  obtain ⟨⟨⟨⟨⟨h1, h2⟩, f1⟩, n1⟩, s1⟩, _⟩ := h
  unfold toldV
  dsimp only
  by_cases k0 : k = 0
  · rw [if_pos k0, f1.resolve_left (by omega), n1.resolve_left (by omega), t0 t (s1.resolve_left (by omega)), k0]
  · rw [if_neg k0]
    by_cases k1 : k = 1
    · rw [if_pos k1, n1.resolve_left (by omega), t0 t (s1.resolve_left (by omega)), k1]
    · rw [if_neg k1]
      by_cases k2 : k = 2
      · rw [if_pos k2, f1.resolve_left (by omega), t0 t (s1.resolve_left (by omega)), k2]
      · rw [if_neg k2]
        by_cases k3 : k = 3
        · rw [if_pos k3, f1.resolve_left (by omega), n1.resolve_left (by omega), k3]
        · omega
theorem cmpL_refl9 : ∀ l : List UInt8, cmpL l l = 0
  | [] => rfl
  | a :: l => by rw [cmpL_same, cmpL_refl9 l]
theorem cmpV_told (a b : V) : cmpV a (toldV b) = cmpV a b := by
  obtain ⟨k, f, n, t⟩ := b
  unfold toldV
  dsimp only
  by_cases k0 : k = 0
  · subst k0
    rw [if_pos rfl]
    unfold cmpV
    dsimp only
    split
    · rfl
    · split
      · rfl
      · next h1 h2 =>
        have e : a.k = 0 := by omega
        rw [e]
        simp
  · rw [if_neg k0]
    by_cases k1 : k = 1
    · subst k1
      rw [if_pos rfl]
      unfold cmpV
      dsimp only
      split
      · rfl
      · split
        · rfl
        · next h1 h2 =>
          have e : a.k = 1 := by omega
          rw [if_pos e, if_pos e]
    · rw [if_neg k1]
      by_cases k2 : k = 2
      · subst k2
        rw [if_pos rfl]
        unfold cmpV
        dsimp only
        split
        · rfl
        · split
          · rfl
          · next h1 h2 =>
            have e : a.k = 2 := by omega
            have e1 : ¬ a.k = 1 := by omega
            rw [if_neg e1, if_neg e1, if_pos e, if_pos e]
      · rw [if_neg k2]
        by_cases k3 : k = 3
        · subst k3
          rw [if_pos rfl]
          unfold cmpV
          dsimp only
          split
          · rfl
          · split
            · rfl
            · next h1 h2 =>
              have e : a.k = 3 := by omega
              have e1 : ¬ a.k = 1 := by omega
              have e2 : ¬ a.k = 2 := by omega
              rw [if_neg e1, if_neg e1, if_neg e2, if_neg e2]
        · rw [if_neg k3]
theorem cmpR_told : ∀ (x y : List V), cmpR x (y.map toldV) = cmpR x y
  | [], [] => rfl
  | [], _ :: _ => rfl
  | _ :: _, [] => rfl
  | a :: x, b :: y => by
    have ih := cmpR_told x y
    rw [List.map_cons]
    unfold cmpR
    rw [cmpV_told, ih]
theorem right_of_same (a b : V) (ha : rightV a = true) (h : cmpV a b = 0) : rightV (toldV b) = true := by
  have hk : a.k = b.k := by
    rw [cmpV_kind] at h
    split at h
    · omega
    · split at h
      · omega
      · omega
  have ha' := ha
  simp only [rightV, Bool.and_eq_true, Bool.or_eq_true, decide_eq_true_eq, beq_iff_eq, Bool.not_eq_true'] at ha'
  obtain ⟨⟨⟨⟨⟨h1, h2⟩, _⟩, _⟩, _⟩, h6⟩ := ha'
  obtain ⟨k, f, n, t⟩ := b
  dsimp only at hk
  unfold toldV
  dsimp only
  by_cases k0 : k = 0
  · rw [if_pos k0]; rfl
  · rw [if_neg k0]
    by_cases k1 : k = 1
    · rw [if_pos k1]; cases f <;> rfl
    · rw [if_neg k1]
      by_cases k2 : k = 2
      · rw [if_pos k2]
        simp [rightV, ByteArray.size]
      · rw [if_neg k2]
        have k3 : k = 3 := by omega
        rw [if_pos k3]
        have ht : a.t = t := by
          unfold cmpV at h
          dsimp only at h
          rw [if_neg (by omega), if_neg (by omega), if_neg (by omega), if_neg (by omega), if_pos (by omega)] at h
          exact cmpS_eq a.t t h
        rw [ht] at h6
        simp [rightV, h6]
theorem right_of_rows : ∀ (x y : List V), x.all rightV = true → cmpR x y = 0 → (y.map toldV).all rightV = true
  | [], [], _, _ => rfl
  | [], _ :: _, _, h => by simp [cmpR] at h
  | _ :: _, [], _, h => by simp [cmpR] at h
  | a :: x, b :: y, hr, h => by
    rw [List.all_cons, Bool.and_eq_true] at hr
    unfold cmpR at h
    by_cases e : cmpV a b = 0
    · rw [if_pos e] at h
      rw [List.map_cons, List.all_cons, right_of_same a b hr.1 e, right_of_rows x y hr.2 h]
      rfl
    · rw [if_neg e] at h
      exact absurd h e
theorem map_told_right (x : List V) (h : x.all rightV = true) : x.map toldV = x := by
  rw [List.all_eq_true] at h
  exact (List.map_congr_left fun v hv => told_right9 (h v hv)).trans (List.map_id x)
/-- Keys have the same bytes just if they are the same. -/
theorem mark_iff (ks key : List V) (hr : ks.all rightV = true) (hw : WideR ks) (hwk : WideR key) : markB ks = markB key ↔ cmpR ks key = 0 := by
  have hwk' : ∀ v ∈ key.map toldV, Wide v := fun v hv => by
    obtain ⟨u, hu, rfl⟩ := List.mem_map.1 hv
    exact told_wide u (hwk u hu)
  have hb : markB ks = markB key ↔ rowB ks = rowB (key.map toldV) := by
    unfold markB
    rw [map_told_right ks hr]
    constructor
    · intro h
      injection h with h
      have := congrArg Array.toList h
      simpa using this
    · intro h
      rw [h]
  rw [hb]
  by_cases ha : (key.map toldV).all rightV = true
  · have hc := cmp_rowB ks (key.map toldV) hr ha hw hwk'
    rw [cmpR_told] at hc
    unfold rowB
    rw [if_pos hr, if_pos ha]
    constructor
    · intro h
      rw [h, cmpL_refl9] at hc
      exact hc.symm
    · intro h
      rw [h] at hc
      exact cmpL_eq _ _ hc
  · constructor
    · intro h
      unfold rowB at h
      rw [if_pos hr, if_neg ha] at h
      simp at h
    · intro h
      exact absurd (right_of_rows ks key hr h) ha

def alikeI : List En → List En → Bool
  | [], [] => true
  | a :: al, b :: bl => a.2 == b.2 && eqR a.1 b.1 && alikeI al bl
  | _, _ => false
theorem alikeI_self : ∀ l : List En, alikeI l l = true
  | [] => rfl
  | a :: al => by simp [alikeI, eqR_self, alikeI_self al]
theorem alikeI_len : ∀ l m : List En, l.length ≠ m.length → alikeI l m = false
  | [], [], h => absurd rfl h
  | [], _ :: _, _ => rfl
  | _ :: _, [], _ => rfl
  | a :: al, b :: bl, h => by
    have ih := alikeI_len al bl (by simpa using h)
    simp [alikeI, ih]
theorem alikeI_step (l m : List En) (k : Nat) (a b : En) (ha : l[k]? = some a) (hb : m[k]? = some b) : alikeI (l.drop k) (m.drop k) = (a.2 == b.2 && eqR a.1 b.1 && alikeI (l.drop (k + 1)) (m.drop (k + 1))) := by
  obtain ⟨h1, h2⟩ := List.getElem?_eq_some_iff.1 ha
  obtain ⟨h3, h4⟩ := List.getElem?_eq_some_iff.1 hb
  rw [List.drop_eq_getElem_cons h1, List.drop_eq_getElem_cons h3, h2, h4]
  rfl

theorem qmoreI {P : Program} {f : FuncId} {args : Array Value} {w : World} {n : Nat} {v : Value} (h : Calls P f args (w.drewN n) fun e w' => e = .returned v ∧ ∃ nd, w' = (w.drewN n).drewN nd) :
    Calls P f args (w.drewN n) fun e w'' => e = .returned v ∧ ∃ m, w'' = w.drewN m := h.mono fun _ _ ⟨he, nd, hm⟩ => ⟨he, n + nd, by rw [hm]; exact World.drewN_drewN _ _ _⟩

set_option maxRecDepth 100000 in
set_option maxHeartbeats 1000000 in
theorem r_alikeI (Q R : Nat → Prop) (A B : Option Addr) (l m : List En) (n n' c d : Nat) (w : World) (hn : l.length = n) (hm : m.length = n') (hl : n ≤ 700000) (hA : EntsQ w Q A l) (hB : EntsQ w R B m) :
    Calls Try.prog 24 #[.slice A n c, .slice B n' d] w fun e w' => e = .returned (.bool (alikeI l m)) ∧ ∃ nd, w' = w.drewN nd := by
  have HA := Lib.hid hA
  have HB := Lib.hid hB
  have HN := Lib.hid hn
  have HM := Lib.hid hm
  by_cases hnm : n = n'
  · subst hnm
    have HE : Hid (alikeI l m = alikeI (l.drop 0) (m.drop 0)) := Lib.hid rfl
    clear hA hB hn hm
    go_enter Try.func24, Try.ntmps24
    go_wp2
    go_loopw [5] (fun i wr => ∃ k : Nat, k ≤ n ∧ i = .int .i64 k ∧ Hid (alikeI l m = alikeI (l.drop k) (m.drop k)) ∧ ∃ nd, wr = w.drewN nd) (fun i _ => n - (intOf i).toNat)
    case atStart => exact ⟨0, Nat.zero_le _, rfl, HE, 0, rfl⟩
    case round =>
      obtain ⟨k, hk, rfl, HC, nd, hw⟩ := hrel
      have hb : Below w.heap.size w wr := by rw [hw]; exact below_drewN' (Below.refl _ _) _
      have HBW := Lib.hid hb
      have HW := Lib.hid hw
      clear hb hw
      by_cases hkn : k < n
      · obtain ⟨x, hx⟩ : ∃ e, l[k]? = some e := ⟨_, List.getElem?_eq_getElem (by rw [HN.out]; exact hkn)⟩
        obtain ⟨y, hy⟩ : ∃ e, m[k]? = some e := ⟨_, List.getElem?_eq_getElem (by rw [HM.out]; exact hkn)⟩
        have HX := Lib.hid hx
        have HY := Lib.hid hy
        obtain ⟨a, rv, rfl, hrow, hblt, c0, c1⟩ := (HA.out.below HBW.out).get k x hx
        obtain ⟨b, sv, rfl, hrow', hblt', d0, d1⟩ := (HB.out.below HBW.out).get k y hy
        have HR := Lib.hid hrow
        have HS := Lib.hid hrow'
        obtain ⟨_, A', c', rfl, _, _⟩ := hrow
        obtain ⟨_, B', d', rfl, _, _⟩ := hrow'
        clear hx hy
        by_cases hmn : x.2 = y.2
        · have h1 : (x.2 != y.2) = false := by simp [hmn]
          have h2 : (x.2 == y.2) = true := by simp [hmn]
          have H2 := Lib.hid h2
          clear h2 hmn
          rcases Bool.eq_false_or_eq_true (eqR x.1 y.1) with hz | hz
          · have HZ := Lib.hid hz
            clear hz
            go_wp2
            go_quiet ((go_at_call 78; exact qmoreI ((ref_equal_rows Q R _ _ x.1 y.1 _ (HR.out.below (below_drewN' (Below.refl _ _) _)) (HS.out.below (below_drewN' (Below.refl _ _) _))))))
            rw [HZ.out]
            go_wp2
            go_roundw
            case rel =>
              refine ⟨k + 1, by omega, by go_num, Lib.hid ?_, _, by rw [HW.out]; exact World.drewN_drewN _ _ _⟩
              rw [HC.out, alikeI_step _ _ _ _ _ HX.out HY.out, H2.out, HZ.out]
              rfl
            case measure => simp [intOf]; omega
          · have HZ := Lib.hid hz
            clear hz
            go_wp2
            go_quiet ((go_at_call 78; exact qmoreI ((ref_equal_rows Q R _ _ x.1 y.1 _ (HR.out.below (below_drewN' (Below.refl _ _) _)) (HS.out.below (below_drewN' (Below.refl _ _) _))))))
            rw [HZ.out]
            go_wp2
            go_ret
            refine ⟨ret_bool ?_, _, by rw [HW.out]; exact World.drewN_drewN _ _ _⟩
            rw [HC.out, alikeI_step _ _ _ _ _ HX.out HY.out, H2.out, HZ.out]
            rfl
        · have h1 : (x.2 != y.2) = true := by simp [hmn]
          have h2 : (x.2 == y.2) = false := by simp [hmn]
          have H2 := Lib.hid h2
          clear h2 hmn
          go_wp2
          go_quiet (fail)
          go_wp2
          go_ret
          refine ⟨ret_bool ?_, _, by rw [HW.out]; exact World.drewN_drewN _ _ _⟩
          rw [HC.out, alikeI_step _ _ _ _ _ HX.out HY.out, H2.out]
          rfl
      · obtain rfl : k = n := by omega
        go_wp2
        go_ret
        refine ⟨ret_bool ?_, _, HW.out⟩
        rw [HC.out, List.drop_of_length_le (by rw [HN.out]; exact Nat.le_refl _), List.drop_of_length_le (by rw [HM.out]; exact Nat.le_refl _)]
        rfl
  · have hal := alikeI_len l m (by rw [hn, hm]; exact hnm)
    clear hA hB hn hm
    go_enter Try.func24, Try.ntmps24
    go_wp2
    go_ret
    exact ⟨ret_bool hal.symm, 0, rfl⟩

/-! ### what an index has does not lie in the box of a slice -/
def NoInt (w : World) (s : Nat) : Prop := ∀ (p : Addr), p.block = s → ∀ n : Int, w.cell? p ≠ some (.int .i64 n)
theorem RowQ.no {w : World} {Q : Nat → Prop} {A : Option Addr} {xs : List V} {s : Nat} (h : RowQ w Q A xs) (hs : NoInt w s) : RowQ w (fun k => Q k ∧ k ≠ s) A xs := by
  intro i v hi
  obtain ⟨a, ha, hq, hv⟩ := h i v hi
  exact ⟨a, ha, ⟨hq, fun e => hs _ e _ hv.1⟩, hv⟩
theorem IsRow.no {w : World} {Q : Nat → Prop} {v : Value} {xs : List V} {s : Nat} (h : IsRow w Q v xs) (hs : NoInt w s) : IsRow w (fun k => Q k ∧ k ≠ s) v xs := by
  obtain ⟨h0, A, c, h1, h2, h3⟩ := h
  exact ⟨h0, A, c, h1, h2, h3.no hs⟩
theorem IntsQ.no {w : World} {Q : Nat → Prop} {A : Option Addr} {zs : List Int} {s : Nat} (h : IntsQ w Q A zs) (hs : NoInt w s) : IntsQ w (fun k => Q k ∧ k ≠ s) A zs := by
  intro i z hi
  obtain ⟨a, ha, hq, hv⟩ := h i z hi
  exact ⟨a, ha, ⟨hq, fun e => hs _ e _ hv⟩, hv⟩
theorem TreeAt.no {w : World} {Q : Nat → Prop} {s : Nat} (hs : NoInt w s) : ∀ (t : Tr) (p : Option Addr), TreeAt w Q p t → TreeAt w (fun k => Q k ∧ k ≠ s) p t
  | .nil, _, h => h
  | .node r m l h, p, ht => by
    obtain ⟨b, pl, ph, e, ⟨n1, n2, ⟨v, n3, n4⟩, n5, n6, n7, n8⟩, hl, hh⟩ := ht
    exact ⟨b, pl, ph, e, ⟨⟨n1, fun e2 => hs ⟨b, 1, none⟩ e2 _ n5⟩, n2, ⟨v, n3.no hs, n4⟩, n5, n6, n7, n8⟩, TreeAt.no hs l pl hl, TreeAt.no hs h ph hh⟩
theorem BagL.no {w : World} {Q : Nat → Prop} {g s : Nat} {l : List En} (h : BagL w Q g l) (hs : NoInt w s) : BagL w (fun k => Q k ∧ k ≠ s) g l := by
  obtain ⟨h0, p, t, h1, h2, h3⟩ := h
  exact ⟨h0, p, t, h1, h2, TreeAt.no hs t p h3⟩
theorem IdxB.only {w w' : World} {x b s : Nat} {D : DataW Value} {A : Option Addr} {c : Nat} {cols : List Int} {S : List Sh} (h : IdxB w x b D A c cols S) (ho : Only s w w') (hs : s ∉ mus x b S) (hn : NoInt w s) : IdxB w' x b D A c cols S := by
  obtain ⟨h1, h2, h3, h4, h5, h6, h7⟩ := h
  have hk : KeepQ (fun k => Qm x b S k ∧ k ≠ s) w w' := fun k hq hl => ho.2 k hl hq.2
  have hb' : ∀ k ∈ mus x b S, w'.heap[k]? = w.heap[k]? := fun k hk => ho.2 k (h6 k hk) (fun e => hs (e ▸ hk))
  refine ⟨(hb' x (by simp [mus])).trans h1, (h2.no hn).keep hk (fun _ _ h => h.1), ownsMap_block h3 (hb' b (by simp [mus])), h4, h5, fun k hk => Nat.lt_of_lt_of_le (h6 k hk) ho.1.size, fun i hi => ?_⟩
  obtain ⟨a1, a2⟩ := h7 i hi
  exact ⟨(hb' i.s (mus_mem hi).1).trans a1, ((a2.no hn).keep hk (hb' i.g (mus_mem hi).2)).imp9 (fun _ _ h => h.1)⟩
theorem sum_few : ∀ l : List En, (∀ e ∈ l, fewN e.2 = true) → -1073741824 * (l.length : Int) ≤ sumM l ∧ sumM l ≤ 1073741824 * (l.length : Int)
  | [], _ => by simp [sumM]
  | e :: l, h => by
    have ih := sum_few l (fun f hf => h f (by simp [hf]))
    have h1 := (fewN_iff _).1 (h e (by simp))
    unfold sumM
    rw [List.length_cons]
    omega
theorem fil_len (K : List V → ByteArray) (z : ByteArray) (L : List En) : (fil K z L).length ≤ L.length := List.length_filter_le _ _
theorem fineS {K : List V → ByteArray} {S : List Sh} {L : List En} (hi : InvS K S L) (hn : S.Pairwise (fun a b => a.key ≠ b.key)) (hg : Good L) (hl : L.length ≤ 200) : FineS S := by
  refine ⟨?_, fun h hm => ?_⟩
  · have hnd : (S.map Sh.key).Nodup := by
      unfold List.Nodup
      rw [List.pairwise_map]
      exact hn
    have := nodup_len (S.map Sh.key) (L.map fun e => K e.1) hnd (fun z hz => by
      obtain ⟨i, hm, rfl⟩ := List.mem_map.1 hz
      obtain ⟨_, _, hne⟩ := hi.mem hn hm
      obtain ⟨e, he⟩ := List.exists_mem_of_ne_nil _ hne
      obtain ⟨he1, he2⟩ := fil_mem.1 he
      exact List.mem_map.2 ⟨e, he1, he2⟩)
    rw [List.length_map, List.length_map] at this
    omega
  · obtain ⟨h1, h2, h3⟩ := hi.mem hn hm
    have h4 := fil_len K h.key L
    have h5 := sum_few (fil K h.key L) (fun e he => (hg.2 e (fil_mem.1 he).1).2.1)
    rw [h1, h2]
    exact ⟨h3, by omega, by omega, by omega⟩

/-! ### keys -/
def KK (cols : List Int) (xs : List V) : ByteArray := markB (pickR xs cols).1
theorem pick_two (xs : List V) (cols : List Int) : pickR xs cols = ((pickR xs cols).1, 0) ∨ pickR xs cols = ([], 2) := by
  unfold pickR
  split
  · exact .inl rfl
  · exact .inr rfl
theorem pick_mem (xs : List V) (cols : List Int) : ∀ v ∈ (pickR xs cols).1, v ∈ xs := by
  unfold pickR
  split
  · next h =>
    intro v hv
    obtain ⟨z, hz, rfl⟩ := List.mem_map.1 hv
    rw [List.all_eq_true] at h
    exact List.mem_of_getElem? (getV_at xs z (h z hz))
  · intro v hv
    cases hv
theorem pick_wide {xs : List V} (cols : List Int) (h : WideR xs) : WideR (pickR xs cols).1 := fun v hv => h v (pick_mem xs cols v hv)
theorem pick_right {xs : List V} (cols : List Int) (h : rightR xs = true) : (pickR xs cols).1.all rightV = true := by
  unfold rightR at h
  rw [Bool.and_eq_true, List.all_eq_true] at h
  rw [List.all_eq_true]
  exact fun v hv => h.2 v (pick_mem xs cols v hv)
theorem all_fit9 {xs : List V} (h : xs.all rightV = true) : Fit xs := by
  intro i v hv
  have h1 := List.all_eq_true.1 h v (List.mem_of_getElem? hv)
  unfold rightV at h1
  simp only [Bool.and_eq_true, decide_eq_true_eq] at h1
  unfold maxLen
  omega
theorem rows_one9 : ∀ (x y : List V), x.all rightV = true → y.all rightV = true → cmpR x y = 0 → x = y
  | [], [], _, _, _ => rfl
  | [], _ :: _, _, _, h => by simp [cmpR] at h
  | _ :: _, [], _, _, h => by simp [cmpR] at h
  | a :: x, b :: y, hx, hy, h => by
    rw [List.all_cons, Bool.and_eq_true] at hx hy
    unfold cmpR at h
    by_cases h1 : cmpV a b = 0
    · rw [if_pos h1] at h
      have h2 := cmpV_eq a b hx.1 hy.1
      rw [h1] at h2
      have h3 := (eqV_iff a b).1 h2.symm
      rw [h3, rows_one9 x y hx.2 hy.2 h]
    · rw [if_neg h1] at h
      exact absurd h h1
theorem right_one9 {x y : List V} (hx : rightR x = true) (hy : rightR y = true) (h : cmpR x y = 0) : x = y := by
  unfold rightR at hx hy
  rw [Bool.and_eq_true] at hx hy
  exact rows_one9 x y hx.2 hy.2 h
theorem not_addL (x : List V) (k : Int) (L : List En) (h : rightR x = false) : addL x k L = (L, 2) := by
  unfold addL
  rw [if_pos h]

/-- What Add of an index does to its rows. -/
def stepK (cols : List Int) (xs : List V) (k : Int) (L : List En) : List En × Int := if (pickR xs cols).2 = 0 then addL xs k L else (L, 2)
def FineE (cols : List Int) (L : List En) : Prop := ∀ e ∈ L, WideR e.1 ∧ (pickR e.1 cols).2 = 0
theorem setL_fine {x : List V} {n : Int} {L : List En} {cols : List Int} (hx : WideR x ∧ (pickR x cols).2 = 0) (h : FineE cols L) : FineE cols (setL x n L) := by
  intro e he
  rcases setL_mem x n L e he with h1 | ⟨_, _, h3 | ⟨f, hf, h3⟩⟩
  · exact h e h1
  · rw [h3]; exact hx
  · rw [← h3]; exact h f hf
theorem addL_fine {x : List V} {k : Int} {L : List En} {cols : List Int} (hx : WideR x ∧ (pickR x cols).2 = 0) (h : FineE cols L) : FineE cols (addL x k L).1 := by
  unfold addL
  split
  · exact h
  · split
    · exact h
    · exact setL_fine hx h
theorem addL_len7 (x : List V) (k : Int) (L : List En) : (addL x k L).1.length ≤ L.length + 1 := by
  unfold addL
  split
  · exact Nat.le_succ _
  · split
    · exact Nat.le_succ _
    · exact setL_len2 x _ L
theorem stepK_len (cols : List Int) (x : List V) (k : Int) (L : List En) : (stepK cols x k L).1.length ≤ L.length + 1 := by
  unfold stepK
  split
  · exact addL_len7 x k L
  · exact Nat.le_succ _

/-! ### both -/
/-- The index in block x with the rows of L', and the document's in the box s with those of L. -/
structure St7 (h x b s : Nat) (A : Option Addr) (c : Nat) (cols : List Int) (L L' : List En) (S : List Sh) (wr : World) : Prop where
  idx : ∃ D A' c', IdxB wr x b D A' c' cols S
  ref : RefX wr (fun k => k ∉ mus x b S ∧ k ≠ s) s A c cols L
  ns : s ∉ mus x b S
  low : ∀ k, k ∈ mus x b S ∨ k = s → h ≤ k
  size : h ≤ wr.heap.size
  inv : InvS (KK cols) S L'
  good : Good L'
  fine : FineE cols L'
  len : L'.length ≤ 200
theorem RefX.below {w w' : World} {Q : Nat → Prop} {s : Nat} {A : Option Addr} {c : Nat} {cols : List Int} {L : List En} (h : RefX w Q s A c cols L) (hb : Below w.heap.size w w') : RefX w' Q s A c cols L :=
  ⟨h.1.below hb, h.2.keep (Below.keepQ hb Q) (fun _ _ h => h)⟩
theorem RefX.lt {w : World} {Q : Nat → Prop} {s : Nat} {A : Option Addr} {c : Nat} {cols : List Int} {L : List En} (h : RefX w Q s A c cols L) : s < w.heap.size := h.1.lt
theorem noInt_x {w : World} {Q : Nat → Prop} {s : Nat} {A : Option Addr} {c : Nat} {cols : List Int} {L : List En} (h : RefX w Q s A c cols L) : NoInt w s := by
  obtain ⟨⟨_, _, Lp, cp, _, _, ⟨_, hb⟩, _⟩, _⟩ := h
  intro p hp m he
  unfold World.cell? at he
  rw [hp, hb] at he
  simp only at he
  split at he
  · cases he
  · obtain ⟨b, o, sp⟩ := p
    match o, he with
    | 0, he => simp at he
    | 1, he => simp at he
    | o + 2, he => simp at he
theorem St7.later {h x b s : Nat} {A : Option Addr} {c : Nat} {cols : List Int} {L L' : List En} {S : List Sh} {wr w' : World} (k : St7 h x b s A c cols L L' S wr) (hb : Below wr.heap.size wr w') : St7 h x b s A c cols L L' S w' := by
  obtain ⟨D, A', c', hI⟩ := k.idx
  exact ⟨⟨D, A', c', hI.below hb⟩, k.ref.below hb, k.ns, k.low, Nat.le_trans k.size hb.size, k.inv, k.good, k.fine, k.len⟩
theorem St7.keys {h x b s : Nat} {A : Option Addr} {c : Nat} {cols : List Int} {L L' : List En} {S : List Sh} {wr : World} (k : St7 h x b s A c cols L L' S wr) : S.Pairwise (fun a b => a.key ≠ b.key) := by
  obtain ⟨D, A', c', hI⟩ := k.idx
  exact hI.2.2.2.1.2.2.2
theorem St7.new (w w1 : World) (x b : Nat) (D : DataW Value) (A A' : Option Addr) (c c' : Nat) (cols : List Int) (hints : IntsQ w (fun k => k < w.heap.size) A cols) (hb1 : Below w.heap.size w w1) (hI : IdxB w1 x b D A' c' cols []) (hx : w.heap.size ≤ x) (hb : w.heap.size ≤ b) :
    St7 w.heap.size x b w1.heap.size A c cols [] [] [] (w1.alloc (.cells #[.slice A cols.length c, .slice none 0 0] 45)) := by
  have hm := hI.2.2.2.2.2.1
  have hz := hb1.size
  have hi1 : IntsQ w1 (fun k => k ∉ mus x b [] ∧ k ≠ w1.heap.size) A cols := hints.keep (Below.keepQ hb1 _) (fun k hk h => ⟨fun hq => by simp [mus] at hq; omega, by omega⟩)
  refine ⟨⟨D, A', c', hI.below (one_new _ _)⟩, RefX.new w1 _ A c cols hi1, fun h => ?_, fun k hk => ?_, by simp; omega, InvS.nil _, Good.nil, (fun e he => by cases he), by simp⟩
  · have := hm _ h; omega
  · rcases hk with hk | rfl
    · simp [mus] at hk; omega
    · exact hz

theorem st7_add1 {h x b s : Nat} {A : Option Addr} {c : Nat} {cols : List Int} {L : List En} {S : List Sh} {wr : World} (st : St7 h x b s A c cols L L S wr) (hcl : cols.length ≤ 1100000) (R : Nat → Prop) (v : Value) (xs : List V) (k : Int) (hx : IsRow wr R v xs) (hw : WideR xs) (hk : -9223372036854775808 ≤ k ∧ k ≤ 9223372036854775807) (hl : L.length ≤ 190) :
    Calls Try.prog 21 #[.pointer (some ⟨x, 0, none⟩), v, .int .i64 k] wr fun e w' => e = .returned (.int .i64 (stepK cols xs k L).2) ∧ Below h wr w' ∧ ∃ S', St7 h x b s A c cols L (stepK cols xs k L).1 S' w' := by
  obtain ⟨D, A', c', hI⟩ := st.idx
  rcases pick_two xs cols with hp | hp
  · have hst : stepK cols xs k L = addL xs k L := by unfold stepK; rw [hp]; rfl
    rw [hst]
    refine (i_add_all x b D A' c' cols S R v xs (pickR xs cols).1 k wr hI hcl hx hp (Nat.le_trans (pick_len xs cols) hcl) (pick_wide cols hw) hk (fineS st.inv st.keys st.good st.len)).mono ?_
    rintro e w' ⟨rfl, om, D', S', hI', hj, hs⟩
    obtain ⟨h1, h2⟩ := step_pure (KK cols) S S' L xs k st.good st.inv (fun hr e he hz => by rw [right_one9 (st.good.2 e he).2.2 hr hz]) hs
    have hz := om.1.size
    have hsl := st.ref.lt
    have hmem : ∀ j, j < wr.heap.size → j ∈ mus x b S' → j ∈ mus x b S := fun j hjl hm => (hj j hm).resolve_right (by omega)
    refine ⟨by rw [← h1]; rfl, om.back st.size (fun j hm => st.low j (.inl hm)), S', ⟨D', A', c', hI'⟩, ?_, fun hm => st.ns (hmem s hsl hm), fun j hm => ?_, by have := st.size; omega, h2, addL_good xs k L st.good, addL_fine ⟨hw, by rw [hp]⟩ st.fine, by have := addL_len7 xs k L; omega⟩
    · have hkq := om.keepQ (Q := fun j => (j ∉ mus x b S ∧ j ≠ s) ∧ j ∉ mus x b S') (fun j hq hm => hq.1.1 hm)
      have r1 := st.ref.1.imp (Q' := fun j => (j ∉ mus x b S ∧ j ≠ s) ∧ j ∉ mus x b S') (fun j hjl hq => ⟨hq, fun hm => hq.1 (hmem j hjl hm)⟩)
      have r2 := r1.keep hkq (om.2 s hsl st.ns)
      refine ⟨r2.imp (fun j _ hq => ⟨hq.2, hq.1.2⟩), ?_⟩
      have i1 := st.ref.2.keep (w' := wr) (Q' := fun j => (j ∉ mus x b S ∧ j ≠ s) ∧ j ∉ mus x b S') (fun _ _ _ => rfl) (fun j hjl hq => ⟨hq, fun hm => hq.1 (hmem j hjl hm)⟩)
      exact i1.keep hkq (fun j _ hq => ⟨hq.2, hq.1.2⟩)
    · rcases hm with hm | rfl
      · rcases hj j hm with h3 | h3
        · exact st.low j (.inl h3)
        · have := st.size; omega
      · exact st.low _ (.inr rfl)
  · have hst : stepK cols xs k L = (L, 2) := by unfold stepK; rw [hp]; rfl
    rw [hst]
    refine (i_add_no x b D A' c' cols S R v xs k wr hI hcl hx hp).mono ?_
    rintro e w' ⟨rfl, hb⟩
    exact ⟨rfl, hb.mono st.size, S, st.later hb⟩
theorem st7_add2 {h x b s : Nat} {A : Option Addr} {c : Nat} {cols : List Int} {L : List En} {S : List Sh} {wr : World} (R : Nat → Prop) (v : Value) (xs : List V) (k : Int) (st : St7 h x b s A c cols L (stepK cols xs k L).1 S wr) (hcl : cols.length ≤ 1100000) (hx : IsRow wr R v xs) (hl : L.length ≤ 190) :
    Calls Try.prog 22 #[.pointer (some ⟨s, 0, none⟩), v, .int .i64 k] wr fun e w' => e = .returned (.int .i64 (stepK cols xs k L).2) ∧ Below h wr w' ∧ St7 h x b s A c cols (stepK cols xs k L).1 (stepK cols xs k L).1 S w' := by
  obtain ⟨D, A', c', hI⟩ := st.idx
  have hm := hI.2.2.2.2.2.1
  have hsl := st.ref.lt
  have hno : ∀ (hst : stepK cols xs k L = (L, 2)) (hq : rightR xs = false ∨ pickR xs cols = ([], 2)), Calls Try.prog 22 #[.pointer (some ⟨s, 0, none⟩), v, .int .i64 k] wr fun e w' => e = .returned (.int .i64 (stepK cols xs k L).2) ∧ Below h wr w' ∧ St7 h x b s A c cols (stepK cols xs k L).1 (stepK cols xs k L).1 S w' := by
    intro hst hq
    rw [hst] at st ⊢
    refine (rx_add_no R _ v xs k s A c cols L wr st.ref hcl hx hq).mono ?_
    rintro e w' ⟨rfl, hb⟩
    exact ⟨rfl, hb.mono st.size, st.later hb⟩
  rcases pick_two xs cols with hp | hp
  · have hst : stepK cols xs k L = addL xs k L := by unfold stepK; rw [hp]; rfl
    rcases Bool.eq_false_or_eq_true (rightR xs) with hr | hr
    · rw [hst] at st ⊢
      refine (rx_add_ok R _ v xs (pickR xs cols).1 k s A c cols L wr (fun j hj => ⟨fun h => by have := hm j h; omega, by omega⟩) (fun h => h.2 rfl) st.ref hcl hx hr hp (by omega)).mono ?_
      rintro e w' ⟨rfl, hX, hb0, hoth⟩
      have ho : Only s wr w' := ⟨⟨hb0.os, hb0.tape, hb0.output, hb0.size, fun j hj => hoth j (by omega) (by omega)⟩, hoth⟩
      exact ⟨rfl, ho.1.mono (st.low s (.inr rfl)), ⟨⟨D, A', c', hI.only ho st.ns (noInt_x st.ref)⟩, hX, st.ns, st.low, Nat.le_trans st.size hb0.size, st.inv, st.good, st.fine, st.len⟩⟩
    · exact hno (by rw [hst, not_addL xs k L hr]) (.inl hr)
  · exact hno (by unfold stepK; rw [hp]; rfl) (.inr hp)
theorem st7_len {h x b s : Nat} {A : Option Addr} {c : Nat} {cols : List Int} {L : List En} {S : List Sh} {wr : World} (st : St7 h x b s A c cols L L S wr) :
    Calls Try.prog 23 #[.pointer (some ⟨x, 0, none⟩)] wr fun e w' => e = .returned (.int .i64 (L.length : Int)) ∧ Below wr.heap.size wr w' := by
  obtain ⟨D, A', c', hI⟩ := st.idx
  have ht := tot_all st.inv st.keys
  have h4 := st.len
  have h := i_len x b D A' c' cols S wr hI (by omega)
  rw [ht] at h
  exact h
theorem St7.fits {h x b s : Nat} {A : Option Addr} {c : Nat} {cols : List Int} {L : List En} {S : List Sh} {wr : World} (st : St7 h x b s A c cols L L S wr) : ∀ e ∈ L, Fit (pickR e.1 cols).1 := fun e he => all_fit9 (pick_right cols (st.good.2 e he).2.2)
theorem St7.hits {h x b s : Nat} {A : Option Addr} {c : Nat} {cols : List Int} {L : List En} {S : List Sh} {wr : World} (st : St7 h x b s A c cols L L S wr) (key : List V) (hw : WideR key) : fil (KK cols) (markB key) L = L.filter (hitK cols key) := by
  unfold fil
  refine List.filter_congr fun e he => ?_
  have hi := mark_iff (pickR e.1 cols).1 key (pick_right cols (st.good.2 e he).2.2) (pick_wide cols (st.fine e he).1) hw
  show decide (markB (pickR e.1 cols).1 = markB key) = (cmpR (pickR e.1 cols).1 key == 0)
  by_cases h0 : cmpR (pickR e.1 cols).1 key = 0
  · rw [decide_eq_true (hi.2 h0)]
    exact (beq_iff_eq.2 h0).symm
  · rw [decide_eq_false (fun e => h0 (hi.1 e))]
    exact (beq_eq_false_iff_ne.2 h0).symm
theorem st7_find1 {h x b s : Nat} {A : Option Addr} {c : Nat} {cols : List Int} {L : List En} {S : List Sh} {wr : World} (st : St7 h x b s A c cols L L S wr) (Ak : Option Addr) (key : List V) (n ck : Nat) (hn : n = key.length) (hl : n ≤ 1100000) (hw : WideR key) (hr : RowAt wr wr.heap.size Ak key) :
    Calls Try.prog 25 #[.pointer (some ⟨x, 0, none⟩), .slice Ak n ck] wr fun y w' => ∃ F c2, y = .returned (.slice F (L.filter (hitK cols key)).length c2) ∧ EntsQ w' (Qm x b S) F (L.filter (hitK cols key)) ∧ Below wr.heap.size wr w' := by
  obtain ⟨D, A', c', hI⟩ := st.idx
  have hh := st.hits key hw
  have hinv := st.inv (markB key)
  unfold contK mkC at hinv
  rw [hh] at hinv
  have hfl : (L.filter (hitK cols key)).length ≤ 200 := Nat.le_trans (List.length_filter_le _ _) st.len
  cases hf : findK S (markB key) with
  | none =>
    rw [hf] at hinv
    have h0 : L.filter (hitK cols key) = [] := by
      by_cases h0 : L.filter (hitK cols key) = []
      · exact h0
      · rw [if_neg h0] at hinv; cases hinv
    rw [h0]
    refine (i_find_no x b D A' c' cols S Ak key n ck wr hI hf hn hl hw hr).mono ?_
    rintro y w' ⟨rfl, hb⟩
    exact ⟨none, 0, rfl, ⟨[], trivial, fun j u hj => by simp [flatE] at hj⟩, hb⟩
  | some i =>
    rw [hf] at hinv
    have h1 : i.l = L.filter (hitK cols key) := by
      by_cases h0 : L.filter (hitK cols key) = []
      · rw [if_pos h0] at hinv; cases hinv
      · rw [if_neg h0] at hinv
        simp only [Option.map_some] at hinv
        injection hinv with hinv
        injection hinv
    refine (i_find_hit x b D A' c' cols S i Ak key n ck wr hI hf hn hl hw hr (by rw [h1]; omega)).mono ?_
    rw [h1]
    rintro y w' ⟨F, c2, rfl, _, hE, hb⟩
    exact ⟨F, c2, rfl, hE, hb⟩
theorem st7_has1 {h x b s : Nat} {A : Option Addr} {c : Nat} {cols : List Int} {L : List En} {S : List Sh} {wr : World} (st : St7 h x b s A c cols L L S wr) (Ak : Option Addr) (key : List V) (n ck : Nat) (hn : n = key.length) (hl : n ≤ 1100000) (hw : WideR key) (hr : RowAt wr wr.heap.size Ak key) :
    Calls Try.prog 27 #[.pointer (some ⟨x, 0, none⟩), .slice Ak n ck] wr fun y w' => y = .returned (.int .i64 (sumM (L.filter (hitK cols key)))) ∧ Below wr.heap.size wr w' := by
  obtain ⟨D, A', c', hI⟩ := st.idx
  have hh := st.hits key hw
  have hinv := st.inv (markB key)
  unfold contK mkC at hinv
  rw [hh] at hinv
  cases hf : findK S (markB key) with
  | none =>
    rw [hf] at hinv
    have h0 : L.filter (hitK cols key) = [] := by
      by_cases h0 : L.filter (hitK cols key) = []
      · exact h0
      · rw [if_neg h0] at hinv; cases hinv
    rw [h0]
    exact i_has_no x b D A' c' cols S Ak key n ck wr hI hf hn hl hw hr
  | some i =>
    rw [hf] at hinv
    have h1 : i.tog = sumM (L.filter (hitK cols key)) := by
      by_cases h0 : L.filter (hitK cols key) = []
      · rw [if_pos h0] at hinv; cases hinv
      · rw [if_neg h0] at hinv
        simp only [Option.map_some] at hinv
        injection hinv with hinv
        injection hinv
    rw [← h1]
    exact i_has_hit x b D A' c' cols S i Ak key n ck wr hI hf hn hl hw hr
theorem keys_of (cols : List Int) (L : List En) (hg : Good L) (hf : FineE cols L) : KeysOf (KK cols) L L.length ((sortL (picksL cols L)).map markB) := by
  obtain ⟨h1, h2, h3, _⟩ := sortL_facts (picksL cols L)
  have hp : ∀ y ∈ picksL cols L, y.all rightV = true ∧ WideR y := by
    intro y hy
    obtain ⟨e, he, rfl⟩ := List.mem_map.1 hy
    exact ⟨pick_right cols (hg.2 e he).2.2, pick_wide cols (hf e he).1⟩
  refine ⟨?_, fun z => ?_⟩
  · unfold List.Nodup
    rw [List.pairwise_map]
    refine List.Pairwise.imp_of_mem (fun {a b} ha hb hlt => ?_) h1
    have pa := hp a (h2 a ha)
    have pb := hp b (h2 b hb)
    intro e
    have := (mark_iff a b pa.1 pa.2 pb.2).1 e
    omega
  · rw [List.take_length]
    constructor
    · intro hz
      obtain ⟨y, hy, rfl⟩ := List.mem_map.1 hz
      obtain ⟨e, he, rfl⟩ := List.mem_map.1 (h2 y hy)
      exact ⟨e, he, rfl⟩
    · rintro ⟨e, he, rfl⟩
      have hm : (pickR e.1 cols).1 ∈ picksL cols L := List.mem_map.2 ⟨e, he, rfl⟩
      obtain ⟨y, hy, hc⟩ := h3 _ hm
      have py := hp y (h2 y hy)
      have pe := hp _ hm
      exact List.mem_map.2 ⟨y, hy, (mark_iff y _ py.1 py.2 pe.2).2 hc⟩
theorem st7_keys1 {h x b s : Nat} {A : Option Addr} {c : Nat} {cols : List Int} {L : List En} {S : List Sh} {wr : World} (st : St7 h x b s A c cols L L S wr) :
    Calls Try.prog 29 #[.pointer (some ⟨x, 0, none⟩)] wr fun e w' => e = .returned (.int .i64 ((sortL (picksL cols L)).length : Int)) ∧ wr = w' := by
  obtain ⟨D, A', c', hI⟩ := st.idx
  have hk := ((keys_of cols L st.good st.fine).all st.inv st.keys).1
  rw [List.length_map] at hk
  rw [hk]
  exact i_keys x b D A' c' cols S wr hI
end Go.Proofs.Ytmdkjhnafnblkaa
