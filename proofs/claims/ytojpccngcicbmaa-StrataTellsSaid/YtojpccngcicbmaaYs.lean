/-
  The program's share and the closure that its Order hands on: whether a name stands on one that is left; slices.Contains, IndexFunc, ContainsFunc at texts.
  No condition but that lists are short.
-/
import Derived.Test.YtojpccngcicbmaaYr
import Derived.Test.YtojpccngcicbmaaShelf
namespace Go.Proofs.Ytojpccngcicbmaa
open Go.RowKit Go.Maps

theorem containsS_hasX (ts : List ByteArray) (x : ByteArray) : Lib.containsS ts x = hasX x ts := by
  rw [Bool.eq_iff_iff, Lib.containsS_iff, hasX_iff]
theorem zero_add_addr (g j : Nat) : (⟨g, 0, none⟩ : Addr).add j = ⟨g, j, none⟩ := by unfold Addr.add; split <;> simp_all

theorem p_has (A : Option Addr) (ts : List ByteArray) (c : Nat) (x : ByteArray) (w : World) (hts : ts.length ≤ 1000) (hA : TxsAt w A ts) (hag : Head0 A) :
    Calls Try.prog 41 #[.slice A ts.length c, .string x] w fun e w' => e = .returned (.bool (hasX x ts)) ∧ Below w.heap.size w w' := by
  by_cases h0 : 0 < ts.length
  · obtain ⟨g, rfl⟩ := TxsAt.head hA hag h0
    refine (Try.slices_Contains_string g 0 ts.length c ts x w (Nat.le_refl _) (by omega) fun j hj => ?_).mono ?_
    · rw [Nat.zero_add]
      have h := TxsAt.at hA j ts[j] (List.getElem?_eq_getElem hj)
      rw [List.getD_eq_getElem?_getD, List.getElem?_eq_getElem hj]
      exact h
    · rintro e w' ⟨rfl, rfl⟩
      rw [List.take_of_length_le (Nat.le_refl _), containsS_hasX]
      exact ⟨rfl, Below.refl _ _⟩
  · have e : ts = [] := List.length_eq_zero_iff.1 (by omega)
    subst e
    refine (Try.slices_Contains_string_empty A c x w).mono ?_
    rintro e w' ⟨rfl, rfl⟩
    exact ⟨rfl, Below.refl _ _⟩

/-- The first of some texts of which q tells yes; -1: of none. -/
def FirstP (q : ByteArray → Bool) (ts : List ByteArray) (z : Int) : Prop :=
  (z = -1 ∧ ∀ y ∈ ts, q y = false) ∨ ∃ (n : Nat) (x : ByteArray), z = (n : Int) ∧ ts[n]? = some x ∧ q x = true ∧ ∀ j y, j < n → ts[j]? = some y → q y = false
theorem FirstP.any {q : ByteArray → Bool} {ts : List ByteArray} {z : Int} (h : FirstP q ts z) : (0 ≤ z ∧ ts.any q = true) ∨ (z < 0 ∧ ts.any q = false) := by
  rcases h with ⟨rfl, h⟩ | ⟨n, x, rfl, h1, h2, _⟩
  · exact .inr ⟨by omega, by rw [List.any_eq_false]; intro y hy; rw [h y hy]; simp⟩
  · exact .inl ⟨by omega, List.any_eq_true.2 ⟨x, List.mem_of_getElem? h1, h2⟩⟩

/-- A list of texts lies in the box p. -/
structure BoxT (p : Nat) (B : Option Addr) (bs : List ByteArray) (d : Nat) (W : World) : Prop where
  cell : W.cell? ⟨p, 0, none⟩ = some (.slice B bs.length d)
  txs : TxsAt W B bs
  head : Head0 B
  few : bs.length ≤ 1000
theorem BoxT.lt {p : Nat} {B : Option Addr} {bs : List ByteArray} {d : Nat} {W : World} (h : BoxT p B bs d W) : p < W.heap.size := World.block_lt_of_cell? W _ h.cell
theorem BoxT.below {p : Nat} {B : Option Addr} {bs : List ByteArray} {d : Nat} {W W' : World} (h : BoxT p B bs d W) (hb : Below W.heap.size W W') : BoxT p B bs d W' :=
  ⟨(hb.cell (p := ⟨p, 0, none⟩) h.lt).trans h.cell, h.txs.below hb, h.head, h.few⟩

set_option maxRecDepth 100000 in
set_option maxHeartbeats 1000000 in
theorem p_share1 (x : ByteArray) (p : Nat) (B : Option Addr) (bs : List ByteArray) (d : Nat) (w : World) (h : BoxT p B bs d w) :
    Calls Try.prog 40 #[.string x, .pointer (some ⟨p, 0, none⟩)] w fun e w' => e = .returned (.bool (hasX x bs)) ∧ Below w.heap.size w w' := by
  have hc := h.cell
  have HF := Lib.hid (p_has B bs d x w h.few h.txs h.head)
  clear h
  generalize hasX x bs = bb at *
  go_enter Try.func40, Try.ntmps40
  go_wp2_with fail
  refine HF.out.mono ?_
  rintro e w' ⟨rfl, hb⟩
  have HB := Lib.hid hb
  clear hb
  go_wp2
  go_ret
  exact ⟨rfl, HB.out⟩

set_option maxRecDepth 100000 in
set_option maxHeartbeats 1000000 in
theorem i_share (A : Option Addr) (ts : List ByteArray) (c : Nat) (hts : ts.length ≤ 1000) (p : Nat) (B : Option Addr) (bs : List ByteArray) (d : Nat) (w : World) (hx : TxsAt w A ts) (hag : Head0 A) (hM : BoxT p B bs d w) :
    Calls Try.prog 25 #[.slice A ts.length c, .func (.func 40) #[] #[.pointer (some ⟨p, 0, none⟩)]] w fun e w' => ∃ z : Int, e = .returned (.int .i64 z) ∧ FirstP (fun s => hasX s bs) ts z ∧ Below w.heap.size w w' := by
  have HX := Lib.hid hx
  have HM := Lib.hid hM
  clear hx hM
  obtain ⟨qq, hqq⟩ : ∃ qq : ByteArray → Bool, qq = (fun s => hasX s bs) := ⟨_, rfl⟩
  rw [← hqq]
  have hpost : ∀ (z : Int) (w' : World), FirstP qq ts z → Below w.heap.size w w' → ∃ z' : Int, Ending.returned (.int .i64 z) = .returned (.int .i64 z') ∧ FirstP qq ts z' ∧ Below w.heap.size w w' := fun z w' h1 h2 => ⟨z, rfl, h1, h2⟩
  have HP := Lib.hid hpost
  have HCL : ∀ (x : ByteArray) (W : World), BoxT p B bs d W → Calls Try.prog 40 #[.string x, .pointer (some ⟨p, 0, none⟩)] W fun e w' => e = .returned (.bool ((fun s => hasX s bs) x)) ∧ Below W.heap.size W w' := fun x W h => p_share1 x p B bs d W h
  have HC := Lib.hid HCL
  have HMB : ∀ W, Below w.heap.size w W → BoxT p B bs d W := fun W hb => HM.out.below hb
  have HMB' := Lib.hid HMB
  clear hpost HCL HMB
  rw [← hqq] at HC
  clear hqq
  go_enter Try.func25, Try.ntmps25
  go_wp2
  go_loopw [8] (fun i wr => ∃ k : Nat, k ≤ ts.length ∧ i = .int .i64 k ∧ (∀ j y, j < k → ts[j]? = some y → qq y = false) ∧ Below w.heap.size w wr) (fun i _ => ts.length - (intOf i).toNat)
  case atStart => exact ⟨0, Nat.zero_le _, rfl, fun j y h => by omega, Below.refl _ _⟩
  case round =>
    obtain ⟨k, hk, rfl, hq, hb⟩ := hrel
    have HQ := Lib.hid hq
    have HB := Lib.hid hb
    clear hq hb
    by_cases h1 : k < ts.length
    · obtain ⟨x, hd⟩ : ∃ x, ts[k]? = some x := ⟨_, List.getElem?_eq_getElem h1⟩
      obtain ⟨g, rfl⟩ := TxsAt.head HX.out hag (by omega)
      have hcell := TxsAt.at (HX.out.below HB.out) k x hd
      have HD := Lib.hid hd
      have HCx := Lib.hid (HC.out x wr (HMB'.out wr HB.out))
      clear hd
      rcases Bool.eq_false_or_eq_true (qq x) with hz | hz
      · rw [hz] at HCx
        have HZ := Lib.hid hz
        clear hz
        go_wp2_with fail
        refine HCx.out.mono ?_
        rintro e w' ⟨rfl, hb2⟩
        go_wp2
        go_ret
        exact HP.out _ _ (.inr ⟨k, x, by go_num, HD.out, HZ.out, HQ.out⟩) (HB.out.trans (hb2.mono HB.out.size))
      · rw [hz] at HCx
        have HZ := Lib.hid hz
        clear hz
        go_wp2_with fail
        refine HCx.out.mono ?_
        rintro e w' ⟨rfl, hb2⟩
        go_wp2
        go_roundw
        case rel =>
          refine ⟨k + 1, by omega, by go_num, fun j y hj hy => ?_, HB.out.trans (hb2.mono HB.out.size)⟩
          by_cases e : j = k
          · subst e
            rw [HD.out] at hy
            injection hy with hy
            rw [← hy]
            exact HZ.out
          · exact HQ.out j y (by omega) hy
        case measure => simp [intOf]; omega
    · go_wp2
      go_ret
      exact HP.out _ _ (.inl ⟨by go_num, fun y hy => by
        obtain ⟨j, hj, e⟩ := List.getElem_of_mem hy
        exact HQ.out j y (by omega) (by rw [List.getElem?_eq_getElem hj, e])⟩) HB.out

set_option maxRecDepth 100000 in
set_option maxHeartbeats 1000000 in
theorem c_share (A : Option Addr) (ts : List ByteArray) (c : Nat) (hts : ts.length ≤ 1000) (p : Nat) (B : Option Addr) (bs : List ByteArray) (d : Nat) (w : World) (hx : TxsAt w A ts) (hag : Head0 A) (hM : BoxT p B bs d w) :
    Calls Try.prog 39 #[.slice A ts.length c, .func (.func 40) #[] #[.pointer (some ⟨p, 0, none⟩)]] w fun e w' => e = .returned (.bool (ts.any fun s => hasX s bs)) ∧ Below w.heap.size w w' := by
  have HF := Lib.hid (i_share A ts c hts p B bs d w hx hag hM)
  clear hx hag hM hts
  go_enter Try.func39, Try.ntmps39
  go_wp2_with fail
  refine HF.out.mono ?_
  rintro e w' ⟨z, rfl, hf, hb⟩
  have HB := Lib.hid hb
  have HA := Lib.hid hf.any
  clear hb hf
  rcases HA.out with ⟨h1, h2⟩ | ⟨h1, h2⟩
  · go_wp2
    go_ret
    refine ⟨ret_bool ?_, HB.out⟩
    first | (rw [h2]; simp; omega) | rw [h2]
  · go_wp2
    go_ret
    refine ⟨ret_bool ?_, HB.out⟩
    first | (rw [h2]; simp; omega) | rw [h2]

set_option maxRecDepth 100000 in
set_option maxHeartbeats 1000000 in
theorem p_share (A : Option Addr) (ts : List ByteArray) (c : Nat) (hts : ts.length ≤ 1000) (B : Option Addr) (bs : List ByteArray) (d : Nat) (w : World) (hx : TxsAt w A ts) (hag : Head0 A) (hB : TxsAt w B bs) (hbg : Head0 B) (hbs : bs.length ≤ 1000) :
    Calls Try.prog 27 #[.slice A ts.length c, .slice B bs.length d] w fun e w' => e = .returned (.bool (ts.any fun s => hasX s bs)) ∧ Below w.heap.size w w' := by
  have hon := one_new w (.cells #[.slice B bs.length d] 26)
  have n0 := new_cellT w #[.slice B bs.length d] 26 0
  have HF := Lib.hid (c_share A ts c hts w.heap.size B bs d (w.alloc (.cells #[.slice B bs.length d] 26)) (hx.below hon) hag ⟨n0, hB.below hon, hbg, hbs⟩)
  have HON := Lib.hid hon
  clear hx hag hB hbg hon n0
  generalize (ts.any fun s => hasX s bs) = bb at *
  go_enter Try.func27, Try.ntmps27
  go_wp2_with fail
  refine HF.out.mono ?_
  rintro e w' ⟨rfl, hb⟩
  have HB := Lib.hid (HON.out.trans (hb.mono HON.out.size))
  clear hb
  go_wp2
  go_ret
  exact ⟨rfl, HB.out⟩

/-- The map lies in a box, and a list of texts in another one. -/
structure TwoB (p n0 b : Nat) (S : List Mn) (q : Nat) (B : Option Addr) (bs : List ByteArray) (d : Nat) (W : World) : Prop where
  cell : W.cell? ⟨p, 0, none⟩ = some (.map (some b))
  map : MapsTo W n0 b S
  box : BoxT q B bs d W
theorem TwoB.lt {p n0 b : Nat} {S : List Mn} {q : Nat} {B : Option Addr} {bs : List ByteArray} {d : Nat} {W : World} (h : TwoB p n0 b S q B bs d W) : p < W.heap.size := World.block_lt_of_cell? W _ h.cell
theorem TwoB.below {p n0 b : Nat} {S : List Mn} {q : Nat} {B : Option Addr} {bs : List ByteArray} {d : Nat} {W W' : World} (h : TwoB p n0 b S q B bs d W) (hb : Below W.heap.size W W') : TwoB p n0 b S q B bs d W' :=
  ⟨(hb.cell (p := ⟨p, 0, none⟩) h.lt).trans h.cell, h.map.below hb, h.box.below hb⟩
/-- The texts behind a name. -/
def textsM : Option Mn → List ByteArray
  | some x => x.2.2
  | none => []
theorem MapsTo.texts {W : World} {n0 b : Nat} {S : List Mn} (h : MapsTo W n0 b S) (s : ByteArray) : OwnL W n0 (valM (findM S s)) (textsM (findM S s)) := by
  cases hf : findM S s with
  | none => exact OwnL.nil _ _
  | some x => exact h.own x (findM_some hf).1
/-- None that a name stands on is among some. -/
def freeM (S : List Mn) (bs : List ByteArray) (s : ByteArray) : Bool := !((textsM (findM S s)).any fun y => hasX y bs)

set_option maxRecDepth 100000 in
set_option maxHeartbeats 1000000 in
theorem p_order1 (s : ByteArray) (p n0 b : Nat) (S : List Mn) (q : Nat) (B : Option Addr) (bs : List ByteArray) (d : Nat) (w : World) (hs : s.size ≤ maxLen) (hS : ∀ x ∈ S, x.2.2.length ≤ 1000) (h : TwoB p n0 b S q B bs d w) :
    Calls Try.prog 26 #[.string s, .pointer (some ⟨p, 0, none⟩), .pointer (some ⟨q, 0, none⟩)] w fun e w' => e = .returned (.bool (freeM S bs s)) ∧ Below w.heap.size w w' := by
  have hc := h.cell
  have hq := h.box.cell
  have hlk := look_M h.map s hs
  have hlen : (textsM (findM S s)).length ≤ 1000 := by
    cases hf : findM S s with
    | none => exact Nat.zero_le _
    | some x => exact hS x (findM_some hf).1
  obtain ⟨A, c, e, _, _, ht, hg⟩ := (h.map.texts s).slice
  rw [e] at hlk
  have HF := Lib.hid (p_share A (textsM (findM S s)) c hlen B bs d w ht hg h.box.txs h.box.head h.box.few)
  unfold freeM
  clear h ht hg e hlen hS
  generalize (textsM (findM S s)).any (fun y => hasX y bs) = bb at *
  go_enter Try.func26, Try.ntmps26
  go_wp2_with fail
  refine HF.out.mono ?_
  rintro e w' ⟨rfl, hb⟩
  have HB := Lib.hid hb
  clear hb
  go_wp2
  go_ret
  exact ⟨rfl, HB.out⟩

set_option maxRecDepth 100000 in
set_option maxHeartbeats 1000000 in
theorem i_order (A : Option Addr) (ts : List ByteArray) (c : Nat) (hts : ts.length ≤ 1000) (p n0 b : Nat) (S : List Mn) (q : Nat) (B : Option Addr) (bs : List ByteArray) (d : Nat) (w : World) (hx : TxsAt w A ts) (hag : Head0 A) (hM : TwoB p n0 b S q B bs d w) (hsz : ∀ x ∈ ts, x.size ≤ maxLen) (hS : ∀ x ∈ S, x.2.2.length ≤ 1000) :
    Calls Try.prog 25 #[.slice A ts.length c, .func (.func 26) #[] #[.pointer (some ⟨p, 0, none⟩), .pointer (some ⟨q, 0, none⟩)]] w fun e w' => ∃ z : Int, e = .returned (.int .i64 z) ∧ FirstP (freeM S bs) ts z ∧ Below w.heap.size w w' := by
  have HX := Lib.hid hx
  have HM := Lib.hid hM
  clear hx hM
  obtain ⟨qq, hqq⟩ : ∃ qq : ByteArray → Bool, qq = (freeM S bs) := ⟨_, rfl⟩
  rw [← hqq]
  have hpost : ∀ (z : Int) (w' : World), FirstP qq ts z → Below w.heap.size w w' → ∃ z' : Int, Ending.returned (.int .i64 z) = .returned (.int .i64 z') ∧ FirstP qq ts z' ∧ Below w.heap.size w w' := fun z w' h1 h2 => ⟨z, rfl, h1, h2⟩
  have HP := Lib.hid hpost
  have HCL : ∀ (x : ByteArray) (W : World), x ∈ ts → TwoB p n0 b S q B bs d W → Calls Try.prog 26 #[.string x, .pointer (some ⟨p, 0, none⟩), .pointer (some ⟨q, 0, none⟩)] W fun e w' => e = .returned (.bool ((freeM S bs) x)) ∧ Below W.heap.size W w' := fun x W hxm h => p_order1 x p n0 b S q B bs d W (hsz x hxm) hS h
  have HC := Lib.hid HCL
  have HMB : ∀ W, Below w.heap.size w W → TwoB p n0 b S q B bs d W := fun W hb => HM.out.below hb
  have HMB' := Lib.hid HMB
  clear hpost HCL HMB
  rw [← hqq] at HC
  clear hqq
  go_enter Try.func25, Try.ntmps25
  go_wp2
  go_loopw [8] (fun i wr => ∃ k : Nat, k ≤ ts.length ∧ i = .int .i64 k ∧ (∀ j y, j < k → ts[j]? = some y → qq y = false) ∧ Below w.heap.size w wr) (fun i _ => ts.length - (intOf i).toNat)
  case atStart => exact ⟨0, Nat.zero_le _, rfl, fun j y h => by omega, Below.refl _ _⟩
  case round =>
    obtain ⟨k, hk, rfl, hq, hb⟩ := hrel
    have HQ := Lib.hid hq
    have HB := Lib.hid hb
    clear hq hb
    by_cases h1 : k < ts.length
    · obtain ⟨x, hd⟩ : ∃ x, ts[k]? = some x := ⟨_, List.getElem?_eq_getElem h1⟩
      obtain ⟨g, rfl⟩ := TxsAt.head HX.out hag (by omega)
      have hcell := TxsAt.at (HX.out.below HB.out) k x hd
      have HD := Lib.hid hd
      have HCx := Lib.hid (HC.out x wr (List.mem_of_getElem? HD.out) (HMB'.out wr HB.out))
      clear hd
      rcases Bool.eq_false_or_eq_true (qq x) with hz | hz
      · rw [hz] at HCx
        have HZ := Lib.hid hz
        clear hz
        go_wp2_with fail
        refine HCx.out.mono ?_
        rintro e w' ⟨rfl, hb2⟩
        go_wp2
        go_ret
        exact HP.out _ _ (.inr ⟨k, x, by go_num, HD.out, HZ.out, HQ.out⟩) (HB.out.trans (hb2.mono HB.out.size))
      · rw [hz] at HCx
        have HZ := Lib.hid hz
        clear hz
        go_wp2_with fail
        refine HCx.out.mono ?_
        rintro e w' ⟨rfl, hb2⟩
        go_wp2
        go_roundw
        case rel =>
          refine ⟨k + 1, by omega, by go_num, fun j y hj hy => ?_, HB.out.trans (hb2.mono HB.out.size)⟩
          by_cases e : j = k
          · subst e
            rw [HD.out] at hy
            injection hy with hy
            rw [← hy]
            exact HZ.out
          · exact HQ.out j y (by omega) hy
        case measure => simp [intOf]; omega
    · go_wp2
      go_ret
      exact HP.out _ _ (.inl ⟨by go_num, fun y hy => by
        obtain ⟨j, hj, e⟩ := List.getElem_of_mem hy
        exact HQ.out j y (by omega) (by rw [List.getElem?_eq_getElem hj, e])⟩) HB.out
end Go.Proofs.Ytojpccngcicbmaa
