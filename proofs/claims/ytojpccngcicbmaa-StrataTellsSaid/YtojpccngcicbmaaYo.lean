/-
  The document's Order: rules' names, each behind those that it stands on, or why there is no order; nothing that was there is changed.
  No condition but that rules are few, and texts no longer than they can be.
-/
import Derived.Test.YtojpccngcicbmaaYn
import Derived.BigQuiet
namespace Go.Proofs.Ytojpccngcicbmaa
open Go.RowKit

theorem ext_classY (h : Nat) (w : World) (hh : h ≤ w.heap.size) : ∃ (E : Type) (X : E → World), Nonempty E ∧ (∀ e, Below h w (X e)) ∧ (∀ W, Below h w W → ∃ e, W = X e) ∧ ∀ e W, Below (X e).heap.size (X e) W → ∃ e2, W = X e2 :=
  ⟨{W : World // Below h w W}, Subtype.val, ⟨⟨w, Below.refl _ _⟩⟩, fun e => e.2, fun W hW => ⟨⟨W, hW⟩, rfl⟩, fun e W hW => ⟨⟨W, e.2.trans (hW.mono (Nat.le_trans hh e.2.size))⟩, rfl⟩⟩
/-- The number of a slice's elements. -/
def lenOf : Value → Nat
  | .slice _ n _ => n
  | _ => 0
/-- A call that answers texts and an error's number. -/
def Ordered16 (w : World) (r : List ByteArray × Int) (e : Ending) (w' : World) : Prop :=
  ∃ A c, e = .returned (.tuple #[.slice A r.1.length c, .int .i64 r.2]) ∧ TxsAt w' A r.1 ∧ Head0 A ∧ Below w.heap.size w w'
theorem txs_none (w : World) : TxsAt w none [] := fun j s hj => by simp at hj
theorem head_none : Head0 none := fun a h => by cases h

set_option maxRecDepth 100000 in
set_option maxHeartbeats 8000000 in
theorem r_Order (l : List Rl) (B : Option Addr) (d : Nat) (w : World) (hl : l.length ≤ 100) (hA : RlsAt w B l) (hsz : ∀ r ∈ l, r.nm.size ≤ maxLen) :
    Calls Try.prog 11 #[.slice B l.length d] w (Ordered16 w (orderL l)) := by
  have HA := Lib.hid hA
  have HSZ := Lib.hid hsz
  clear hA hsz
  by_cases hlong : 12 < l.length
  · have HO := Lib.hid (order_long hlong)
    have hd : decide ((12 : Int) < (l.length : Int)) = true := decide_eq_true (by omega)
    go_enter Try.func11, Try.ntmps11
    go_wp2
    go_ret2
    rw [HO.out]
    exact ⟨none, 0, rfl, txs_none _, head_none, Below.refl _ _⟩
  · have hd : decide ((12 : Int) < (l.length : Int)) = false := decide_eq_false (by omega)
    have hl12 : l.length ≤ 12 := by omega
    have HTW := Lib.hid (fun h => order_twice hlong (l := l) h)
    have HGO := Lib.hid (fun h => order_goes hlong (l := l) h)
    clear hlong
    go_enter Try.func11, Try.ntmps11
    go_wp2
    go_loopw [4] (fun i wr => ∃ k : Nat, i = .int .i64 k ∧ k ≤ l.length ∧ Hid (∀ (j : Nat) (s : ByteArray), j < k → (nms l)[j]? = some s → posS (nms l) s = (j : Int)) ∧ Below w.heap.size w wr) (fun i _ => l.length - (intOf i).toNat)
    case atStart => exact ⟨0, rfl, by omega, Lib.hid (fun j s h => by omega), Below.refl _ _⟩
    case round =>
      obtain ⟨k, rfl, hk, HPS, hb⟩ := hrel
      have HB := Lib.hid hb
      by_cases hlt : k < l.length
      · obtain ⟨r, hr⟩ : ∃ r, l[k]? = some r := ⟨_, List.getElem?_eq_getElem hlt⟩
        obtain ⟨a, rfl, ⟨a0, a1, a2, a3, a4, a5, a6⟩, hok⟩ := (HA.out.below hb) k r hr
        have hnk := nms_at hr
        have HF := Lib.hid (r_find l (some a) d r.nm wr (by omega) (HA.out.below hb))
        have hsize := hb.size
        have HNK := Lib.hid hnk
        have hpd : Hid ((nms l).Nodup → posS (nms l) r.nm = (k : Int)) := Lib.hid (fun h => pos_nodup h k _ hnk)
        obtain ⟨p, hp⟩ : ∃ p, p = posS (nms l) r.nm := ⟨_, rfl⟩
        rw [← hp] at HF hpd
        have HP := Lib.hid hp
        clear hp hr hnk hb hok
        go_wp2_with fail
        refine HF.out.mono ?_
        rintro e w2 ⟨rfl, hb2⟩
        have HB2 := Lib.hid (HB.out.trans (hb2.mono hsize))
        clear hb2 HF
        by_cases he : p = (k : Int)
        · have HE := Lib.hid he
          have hne : (p != (k : Int)) = false := by simp [he]
          clear he
          go_wp2
          go_roundw
          case rel =>
            refine ⟨k + 1, by go_num, by omega, Lib.hid (fun j s hj hs => ?_), HB2.out⟩
            by_cases hjk : j < k
            · exact HPS.out j s hjk hs
            · obtain rfl : j = k := by omega
              rw [HNK.out] at hs
              injection hs with hs
              rw [← hs, ← HP.out]
              exact HE.out
          case measure => simp [intOf]; omega
        · have hne : (p != (k : Int)) = true := by simp [he]
          have HO := Lib.hid (HTW.out (fun h => he (hpd.out h)))
          clear he
          go_wp2
          go_ret2
          rw [HO.out]
          exact ⟨none, 0, rfl, txs_none _, head_none, HB2.out⟩
      · obtain rfl : k = l.length := by omega
        have hnd : (nms l).Nodup := nodup_pos _ fun i s hs => HPS.out i s (by have := (List.getElem?_eq_some_iff.1 hs).1; rw [nms_len] at this; exact this) hs
        have HND := Lib.hid hnd
        have hgo := HGO.out hnd
        have H0 : Hid (∃ out, OwnL wr w.heap.size (.slice none 0 0) out ∧ out.length ≤ l.length ∧ orderL l = orderGo l (l.length - out.length) out ∧ Below w.heap.size w wr) := Lib.hid ⟨[], OwnL.nil _ _, Nat.zero_le _, hgo, hb⟩
        clear hnd hgo hb
        go_wp2
        go_loopw [5] (fun v wr => ∃ out, OwnL wr w.heap.size v out ∧ out.length ≤ l.length ∧ orderL l = orderGo l (l.length - out.length) out ∧ Below w.heap.size w wr) (fun v _ => l.length - lenOf v)
        case atStart => exact H0.out
        case round =>
          obtain ⟨out, hown, hol, hgo, hb⟩ := hrel
          have HOW := Lib.hid hown
          have HGR := Lib.hid hgo
          have HB := Lib.hid hb
          obtain ⟨AO, cO, hv, _, _, htx, hag⟩ := hown.slice
          subst hv
          have HTX := Lib.hid htx
          have HAG := Lib.hid hag
          have hsize := hb.size
          by_cases hlt : out.length < l.length
          · obtain ⟨f, hf⟩ : ∃ f, l.length - out.length = f + 1 := ⟨l.length - out.length - 1, by omega⟩
            have HFF := Lib.hid hf
            obtain ⟨wo, hwo⟩ : ∃ W, W = wr := ⟨_, rfl⟩
            have HB0 : Hid (BestAt l out 0 (-1) ∧ Below wo.heap.size wo wr) := Lib.hid ⟨BestAt.zero _ _, by rw [hwo]; exact Below.refl _ _⟩
            rw [← hwo] at HOW HB HTX hsize
            clear hown hgo hb htx hag hf hwo
            go_wp2
            go_loopw [6, 7] (fun b i wr => ∃ (k : Nat) (bz : Int), i = .int .i64 k ∧ b = .int .i64 bz ∧ k ≤ l.length ∧ BestAt l out k bz ∧ Below wo.heap.size wo wr) (fun _ i _ => l.length - (intOf i).toNat)
            case atStart => exact ⟨0, _, rfl, rfl, by omega, HB0.out⟩
            case round =>
              obtain ⟨k, bz, rfl, rfl, hk, hbest, hbk⟩ := hrel
              have HBEST := Lib.hid hbest
              have HBK := Lib.hid hbk
              have hsk := hbk.size
              by_cases hkl : k < l.length
              · obtain ⟨r, hr⟩ : ∃ r, l[k]? = some r := ⟨_, List.getElem?_eq_getElem hkl⟩
                have hAk := HA.out.below (HB.out.trans (hbk.mono hsize))
                obtain ⟨a, rfl, ⟨a0, a1, a2, a3, a4, a5, a6⟩, hok⟩ := hAk k r hr
                have hablt := World.block_lt_of_cell? wr _ a0
                have HR := Lib.hid hr
                have HSR := Lib.hid (HSZ.out r (List.mem_of_getElem? hr))
                have HHAS0 := Lib.hid (fun (W : World) (h : Below wr.heap.size wr W) => r_hasY out AO cO r.nm W (by omega) ((HTX.out.below hbk).below h) HAG.out)
                have HRDY0 := Lib.hid (fun (W : World) (h : Below wr.heap.size wr W) => r_ready r l out (some a) AO d cO W (hok.below h) (by omega) (by omega) (hAk.below h) ((HTX.out.below hbk).below h) HAG.out)
                have HBZ := Lib.hid (show bz = -1 ∨ ∃ (n : Nat) (q : Rl), bz = (n : Int) ∧ n < k ∧ l[n]? = some q from hbest.elim (fun h => .inl h.1) (fun ⟨n, q, h1, h2, h3, _⟩ => .inr ⟨n, q, h1, h2, h3⟩))
                have HAK := Lib.hid hAk
                obtain ⟨XE, xf, hXN, hX1, hX0, hX2⟩ := ext_classY wr.heap.size wr (Nat.le_refl _)
                have HX1 := Lib.hid hX1
                have HX2 := Lib.hid hX2
                have hin := hX0 wr.drew (Below.drew (Below.refl _ _))
                have b0 := fun e => (((HX1.out e).cell (p := a.add (k * 7)) hablt).trans a0 : (xf e).cell? (a.add (k * 7)) = _)
                have b1 := fun e => (((HX1.out e).cell (p := { block := (a.add (k * 7)).block, off := (a.add (k * 7)).off + 1 }) hablt).trans a1 : (xf e).cell? ({ block := (a.add (k * 7)).block, off := (a.add (k * 7)).off + 1 }) = _)
                have b2 := fun e => (((HX1.out e).cell (p := { block := (a.add (k * 7)).block, off := (a.add (k * 7)).off + 2 }) hablt).trans a2 : (xf e).cell? ({ block := (a.add (k * 7)).block, off := (a.add (k * 7)).off + 2 }) = _)
                have b3 := fun e => (((HX1.out e).cell (p := { block := (a.add (k * 7)).block, off := (a.add (k * 7)).off + 3 }) hablt).trans a3 : (xf e).cell? ({ block := (a.add (k * 7)).block, off := (a.add (k * 7)).off + 3 }) = _)
                have b4 := fun e => (((HX1.out e).cell (p := { block := (a.add (k * 7)).block, off := (a.add (k * 7)).off + 4 }) hablt).trans a4 : (xf e).cell? ({ block := (a.add (k * 7)).block, off := (a.add (k * 7)).off + 4 }) = _)
                have b5 := fun e => (((HX1.out e).cell (p := { block := (a.add (k * 7)).block, off := (a.add (k * 7)).off + 5 }) hablt).trans a5 : (xf e).cell? ({ block := (a.add (k * 7)).block, off := (a.add (k * 7)).off + 5 }) = _)
                have b6 := fun e => (((HX1.out e).cell (p := { block := (a.add (k * 7)).block, off := (a.add (k * 7)).off + 6 }) hablt).trans a6 : (xf e).cell? ({ block := (a.add (k * 7)).block, off := (a.add (k * 7)).off + 6 }) = _)
                clear hX1 hX0 hX2 hr hbk hok hbest hAk a0 a1 a2 a3 a4 a5 a6
                unfold Rl.cells at HRDY0
                cases hhas : hasX r.nm out with
                | true =>
                  have HHAS : Hid (∀ W, Below wr.heap.size wr W → Calls Try.prog 30 #[.slice AO out.length cO, .string r.nm] W fun e w' => e = .returned (.bool true) ∧ Below W.heap.size W w') := Lib.hid (by rw [hhas] at HHAS0; exact HHAS0.out)
                  have HNO := Lib.hid (show okAt l out r = false by unfold okAt; rw [hhas]; rfl)
                  clear hhas HHAS0 HRDY0 HBZ HAK
                  go_wp2_with fail
                  refine wp_region_quiet (C := fun W => ∃ e, W = xf e) (by kernel_rfl) (by kernel_rfl) hin ?_
                  clear hin
                  dsimp only
                  repeat (go_big_quiet_step (first | (go_at_call 30; refine (HHAS.out _ (HX1.out _)).mono ?_; rintro e w5 ⟨rfl, hb5⟩; exact ⟨rfl, HX2.out _ _ hb5⟩)))
                  refine wpQuiet_nil ?_
                  intro w5 hW5
                  obtain ⟨ee, hW5⟩ := hW5
                  have hb5 : Below wr.heap.size wr w5 := by rw [hW5]; exact HX1.out ee
                  clear hW5
                  have HB5 := Lib.hid (HBK.out.trans (hb5.mono hsk))
                  clear hb5 b0 b1 b2 b3 b4 b5 b6
                  go_wp2
                  go_roundw
                  case rel => exact ⟨k + 1, _, by go_num, rfl, by omega, HBEST.out.skip HR.out HNO.out, HB5.out⟩
                  case measure => simp [intOf]; omega
                | false =>
                  have HHAS : Hid (∀ W, Below wr.heap.size wr W → Calls Try.prog 30 #[.slice AO out.length cO, .string r.nm] W fun e w' => e = .returned (.bool false) ∧ Below W.heap.size W w') := Lib.hid (by rw [hhas] at HHAS0; exact HHAS0.out)
                  cases hrdy : readyS (nms l) out r.asks with
                  | false =>
                    have HRDY : Hid (∀ W, Below wr.heap.size wr W → Calls Try.prog 31 #[.agg #[.int .i64 r.k, .string r.nm, .slice r.hA r.hn r.hc, .int .i64 r.ag, .string r.ofv, .int .i64 r.lim, .slice r.bA r.b.length r.bc], .slice (some a) l.length d, .slice AO out.length cO] W fun e w' => e = .returned (.bool false) ∧ Below W.heap.size W w') := Lib.hid (by rw [hrdy] at HRDY0; exact HRDY0.out)
                    have HNO := Lib.hid (show okAt l out r = false by unfold okAt; rw [hhas, hrdy]; rfl)
                    clear hhas hrdy HHAS0 HRDY0 HBZ HAK
                    go_wp2_with fail
                    refine wp_region_quiet (C := fun W => ∃ e, W = xf e) (by kernel_rfl) (by kernel_rfl) hin ?_
                    clear hin
                    dsimp only
                    repeat (go_big_quiet_step (first | (go_at_call 30; refine (HHAS.out _ (HX1.out _)).mono ?_; rintro e w5 ⟨rfl, hb5⟩; exact ⟨rfl, HX2.out _ _ hb5⟩) | (go_at_call 31; refine (HRDY.out _ (HX1.out _)).mono ?_; rintro e w5 ⟨rfl, hb5⟩; exact ⟨rfl, HX2.out _ _ hb5⟩)))
                    refine wpQuiet_nil ?_
                    intro w5 hW5
                    obtain ⟨ee, hW5⟩ := hW5
                    have hb5 : Below wr.heap.size wr w5 := by rw [hW5]; exact HX1.out ee
                    clear hW5
                    have HB5 := Lib.hid (HBK.out.trans (hb5.mono hsk))
                    clear hb5 b0 b1 b2 b3 b4 b5 b6
                    go_wp2
                    go_roundw
                    case rel => exact ⟨k + 1, _, by go_num, rfl, by omega, HBEST.out.skip HR.out HNO.out, HB5.out⟩
                    case measure => simp [intOf]; omega
                  | true =>
                    have HRDY : Hid (∀ W, Below wr.heap.size wr W → Calls Try.prog 31 #[.agg #[.int .i64 r.k, .string r.nm, .slice r.hA r.hn r.hc, .int .i64 r.ag, .string r.ofv, .int .i64 r.lim, .slice r.bA r.b.length r.bc], .slice (some a) l.length d, .slice AO out.length cO] W fun e w' => e = .returned (.bool true) ∧ Below W.heap.size W w') := Lib.hid (by rw [hrdy] at HRDY0; exact HRDY0.out)
                    have HYES := Lib.hid (show okAt l out r = true by unfold okAt; rw [hhas, hrdy]; rfl)
                    clear hhas hrdy HHAS0 HRDY0
                    have hbz := HBZ.out
                    rcases hbz with rfl | ⟨n, q, rfl, hnk, hq⟩
                    · have HNB := Lib.hid (HBEST.out.first HR.out HYES.out)
                      clear HBZ HAK
                      go_wp2_with fail
                      refine wp_region_quiet (C := fun W => ∃ e, W = xf e) (by kernel_rfl) (by kernel_rfl) hin ?_
                      clear hin
                      dsimp only
                      repeat (go_big_quiet_step (first | (go_at_call 30; refine (HHAS.out _ (HX1.out _)).mono ?_; rintro e w5 ⟨rfl, hb5⟩; exact ⟨rfl, HX2.out _ _ hb5⟩) | (go_at_call 31; refine (HRDY.out _ (HX1.out _)).mono ?_; rintro e w5 ⟨rfl, hb5⟩; exact ⟨rfl, HX2.out _ _ hb5⟩)))
                      refine wpQuiet_nil ?_
                      intro w5 hW5
                      obtain ⟨ee, hW5⟩ := hW5
                      have hb5 : Below wr.heap.size wr w5 := by rw [hW5]; exact HX1.out ee
                      clear hW5
                      have HB5 := Lib.hid (HBK.out.trans (hb5.mono hsk))
                      clear hb5 b0 b1 b2 b3 b4 b5 b6
                      go_wp2
                      go_roundw
                      case rel => exact ⟨k + 1, _, by go_num, rfl, by omega, HNB.out, HB5.out⟩
                      case measure => simp [intOf]; omega
                    · obtain ⟨a9, ha9, ⟨_, q1, _⟩, _⟩ := HAK.out n q hq
                      injection ha9 with ha9
                      subst ha9
                      have hqlt := World.block_lt_of_cell? wr _ q1
                      have b7 := fun e => (((HX1.out e).cell (p := { block := (a.add (n * 7)).block, off := (a.add (n * 7)).off + 1 }) hqlt).trans q1 : (xf e).cell? { block := (a.add (n * 7)).block, off := (a.add (n * 7)).off + 1 } = _)
                      have HTXT0 := Lib.hid (fun (W : World) (_ : Below wr.heap.size wr W) => ref_textY r.nm q.nm W HSR.out)
                      have HQ := Lib.hid hq
                      have HLE := Lib.hid (fun hc => HBEST.out.less HQ.out HR.out HYES.out (r := r) (q := q) hc)
                      have HNL := Lib.hid (fun hc => HBEST.out.notLess HQ.out HR.out (r := r) (q := q) hc)
                      have i1 : ¬ ((n : Int) < 0) := by omega
                      have i2 : n < l.length := by omega
                      have i3 : decide ((n : Int) < 0) = false := decide_eq_false i1
                      obtain ⟨cc, hcc⟩ : ∃ c, c = cmpS r.nm q.nm := ⟨_, rfl⟩
                      rw [← hcc] at HTXT0 HLE HNL
                      clear q1 hq hcc HBZ HAK
                      by_cases hlt2 : cc < 0
                      · have HNB := Lib.hid (HLE.out hlt2)
                        have i4 : decide (cc < 0) = true := decide_eq_true hlt2
                        have HTXT := HTXT0
                        go_wp2_with fail
                        refine wp_region_quiet (C := fun W => ∃ e, W = xf e) (by kernel_rfl) (by kernel_rfl) hin ?_
                        clear hin
                        dsimp only
                        repeat (go_big_quiet_step (first | (go_at_call 30; refine (HHAS.out _ (HX1.out _)).mono ?_; rintro e w5 ⟨rfl, hb5⟩; exact ⟨rfl, HX2.out _ _ hb5⟩) | (go_at_call 31; refine (HRDY.out _ (HX1.out _)).mono ?_; rintro e w5 ⟨rfl, hb5⟩; exact ⟨rfl, HX2.out _ _ hb5⟩) | (go_at_call 32; refine (HTXT.out _ (HX1.out _)).mono ?_; rintro e w5 ⟨rfl, hb5⟩; exact ⟨rfl, HX2.out _ _ hb5⟩)))
                        refine wpQuiet_nil ?_
                        intro w5 hW5
                        obtain ⟨ee, hW5⟩ := hW5
                        have hb5 : Below wr.heap.size wr w5 := by rw [hW5]; exact HX1.out ee
                        clear hW5
                        have HB5 := Lib.hid (HBK.out.trans (hb5.mono hsk))
                        clear hb5 b0 b1 b2 b3 b4 b5 b6 b7
                        go_wp2
                        go_roundw
                        case rel => exact ⟨k + 1, _, by go_num, rfl, by omega, HNB.out, HB5.out⟩
                        case measure => simp [intOf]; omega
                      · have HNB := Lib.hid (HNL.out hlt2)
                        have i4 : decide (cc < 0) = false := decide_eq_false hlt2
                        have HTXT := HTXT0
                        go_wp2_with fail
                        refine wp_region_quiet (C := fun W => ∃ e, W = xf e) (by kernel_rfl) (by kernel_rfl) hin ?_
                        clear hin
                        dsimp only
                        repeat (go_big_quiet_step (first | (go_at_call 30; refine (HHAS.out _ (HX1.out _)).mono ?_; rintro e w5 ⟨rfl, hb5⟩; exact ⟨rfl, HX2.out _ _ hb5⟩) | (go_at_call 31; refine (HRDY.out _ (HX1.out _)).mono ?_; rintro e w5 ⟨rfl, hb5⟩; exact ⟨rfl, HX2.out _ _ hb5⟩) | (go_at_call 32; refine (HTXT.out _ (HX1.out _)).mono ?_; rintro e w5 ⟨rfl, hb5⟩; exact ⟨rfl, HX2.out _ _ hb5⟩)))
                        refine wpQuiet_nil ?_
                        intro w5 hW5
                        obtain ⟨ee, hW5⟩ := hW5
                        have hb5 : Below wr.heap.size wr w5 := by rw [hW5]; exact HX1.out ee
                        clear hW5
                        have HB5 := Lib.hid (HBK.out.trans (hb5.mono hsk))
                        clear hb5 b0 b1 b2 b3 b4 b5 b6 b7
                        go_wp2
                        go_roundw
                        case rel => exact ⟨k + 1, _, by go_num, rfl, by omega, HNB.out, HB5.out⟩
                        case measure => simp [intOf]; omega
              · obtain rfl : k = l.length := by omega
                have hdone := hbest.done HND.out
                have HB3 := Lib.hid (HB.out.trans (hbk.mono hsize))
                have HOW3 := Lib.hid (HOW.out.below hbk (Nat.le_refl _))
                have HGR3 := HGR.out
                rw [HFF.out] at HGR3
                have HGQ := Lib.hid HGR3
                have hs3 : w.heap.size ≤ wr.heap.size := HB3.out.size
                clear hbest hbk HGR3
                rcases hdone with ⟨rfl, hnx⟩ | ⟨n, q, rfl, hq, hnx⟩
                · have HO := Lib.hid (HGQ.out.trans (orderGo_cycle hnx))
                  clear hnx
                  go_wp2
                  go_ret2
                  rw [HO.out]
                  exact ⟨none, 0, rfl, txs_none _, head_none, HB3.out⟩
                · have HO := Lib.hid (HGQ.out.trans (orderGo_next hnx))
                  obtain ⟨a, rfl, ⟨_, q1, _⟩, _⟩ := (HA.out.below HB3.out) n q hq
                  have hn := (List.getElem?_eq_some_iff.1 hq).1
                  have i1 : ¬ ((n : Int) < 0) := by omega
                  have i3 : decide ((n : Int) < 0) = false := decide_eq_false i1
                  clear hnx hq
                  go_wp2_with (at_builtin; go_must (refine wp_append_L _ rfl (.tmp 75) (.tmp 81) rfl w.heap.size _ out q.nm rfl (World.ownsRow.alloc HOW3.out _) ⟨wr.heap.size, 0, none⟩ 1 rfl (new_cellT _ _ _ 0) (by omega) (by simp; omega) ?_; intro v' w7 hown7 hb7))
                  have HB7 := Lib.hid (HB3.out.trans (((one_new wr (.cells #[.string q.nm] 9)).mono hs3).trans hb7))
                  have HOW7 := Lib.hid hown7
                  obtain ⟨A7, c7, hv7⟩ := hown7.form
                  rw [List.length_append, List.length_singleton] at hv7
                  have HV7 := Lib.hid hv7
                  clear hown7 hb7 hv7
                  go_wp2
                  go_roundw
                  case rel => exact ⟨out ++ [q.nm], HOW7.out, by rw [List.length_append, List.length_singleton]; omega, by rw [HO.out, List.length_append, List.length_singleton]; congr 1; have := HFF.out; omega, HB7.out⟩
                  case measure =>
                    rw [HV7.out]
                    simp [lenOf]
                    omega
          · have he : out.length = l.length := by omega
            have HO := Lib.hid (hgo.trans (by rw [he, Nat.sub_self]; rfl : orderGo l (l.length - out.length) out = (out, 0)))
            have HE := Lib.hid he
            clear hown hgo htx hag hb he
            go_wp2
            go_ret2
            rw [HO.out]
            exact ⟨AO, cO, rfl, HTX.out, HAG.out, HB.out⟩
end Go.Proofs.Ytojpccngcicbmaa
