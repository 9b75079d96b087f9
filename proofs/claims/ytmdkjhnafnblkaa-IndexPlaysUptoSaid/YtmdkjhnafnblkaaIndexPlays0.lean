/-
  A region that draws its order, walked by hand where what its loads read changes behind its calls: the condition that is held may be made stronger on the way.
  No condition.
  IndexPlays of verdererlaw06 answers true at every list of places, every list of entries and every key, and changes nothing that was there.
  Condition: no more than one million one hundred thousand places.
-/
import Derived.Test.YtmdkjhnafnblkaaVal
import Derived.OrdersHeld
import Derived.Test.YtmdkjhnafnblkaaIku
import Derived.Test.YtmdkjhnafnblkaaIkn
import Derived.Test.YtmdkjhnafnblkaaEwide
namespace Go.Proofs.Ytmdkjhnafnblkaa
open Go.RowKit

section
variable {P : Program} {ops : Array Oper} {Q : Exit → Act → World → Prop} {md : Region.Mode} {S : World → Prop}

/-- What is asked behind a statement that ends as it should. -/
def Goes2 (Q : Exit → Act → World → Prop) (e : Exit) (a : Act) (w : World) : Prop := e = .normal ∧ Q .normal a w

theorem h_begin {id : Nat} {a : Act} {w : World} (hm : P.follows .mixedOrders = true) (h : wpAnyH P .any ops (Goes2 Q) S ops.size (Array.replicate ops.size false) a w.drew) : (Code.region id ops true).wp P Q a w :=
  Code.wp_mono (fun e a w h => by obtain ⟨rfl, h⟩ := h; exact h) (wp_region_held hm h)
theorem h_more {S' : World → Prop} (hs : ∀ w, S' w → S w) : ∀ (fuel : Nat) (listed : Array Bool) (a : Act) (w : World), wpAnyH P md ops Q S' fuel listed a w → wpAnyH P md ops Q S fuel listed a w
  | 0, _, _, _, h => h
  | fuel + 1, _, _, _, h => ⟨h.1, fun i hi => wpOp_mono (fun a' w' h' => ⟨hs w' h'.1, h_more hs fuel _ a' w' h'.2⟩) (h.2 i hi)⟩
theorem h_take {i d : Nat} {oi : Oper} {v : Value} {fuel : Nat} {listed : Array Bool} {a : Act} {w : World} (hi : ops[i]? = some oi) (hd : oi.dst = some d) (hs : Region.noSelect ops = true) (hf : Region.free md ops listed i = true) (hr : (Region.ready md ops listed).contains i = true)
    (hw : Region.wanted oi (yielded ops a.tmps) = true) (hS : S w) (hy : ∀ w, S w → (execOp a.eval oi).run P w = .ok (.value v) w)
    (h : wpAnyH P md ops (Goes2 Q) S fuel (listed.setIfInBounds i true) { tmps := a.tmps.setIfInBounds d v, defers := a.defers } w) : wpAnyH P md ops (Goes2 Q) S (fuel + 1) listed a w :=
  wpAnyH_take hi hs hf hr (fun _ _ _ h => by cases h.1) (Or.inl ⟨hw, hy⟩) hS (by rw [hd]; exact h)
theorem h_next {i : Nat} {oi : Oper} {fuel : Nat} {listed : Array Bool} {a : Act} {w : World} (hr : Region.ready md ops listed = [i]) (hi : ops[i]? = some oi) (hw : Region.wanted oi (yielded ops a.tmps) = true)
    (h : ∀ K : Act → World → Prop, Hid (∀ a w, S w → wpAnyH P md ops (Goes2 Q) S fuel (listed.setIfInBounds i true) a w → K a w) → Oper.wp P oi a w K (Goes2 Q)) : wpAnyH P md ops (Goes2 Q) S (fuel + 1) listed a w := by
  refine wpAnyH_all hr (by simp) fun j hj => ?_
  obtain rfl := List.mem_singleton.1 hj
  unfold wpOp
  simp only [hi, hw, if_true]
  exact Or.inl (h _ (Lib.hid fun a w hS h => ⟨hS, h⟩))
theorem h_done {fuel : Nat} {listed : Array Bool} {a : Act} {w : World} (hr : Region.ready md ops listed = []) (h : Q .normal a w) : wpAnyH P md ops (Goes2 Q) S fuel listed a w := wpAnyH_done hr ⟨rfl, h⟩ _
end
open Go.RowKit Go.Maps

theorem round7 {w wr : World} {x b s : Nat} {A : Option Addr} {c : Nat} {cols : List Int} {L : List En} {S : List Sh} (st : St7 w.heap.size x b s A c cols L L S wr) (hb : Below w.heap.size w wr) (hcl : cols.length ≤ 1100000) (hl : L.length ≤ 150) (R : Nat → Prop) (v : Value) (xs : List V) (k : Int) (hv : IsRow w R v xs) (hw : WideR xs) (hk : -9223372036854775808 ≤ k ∧ k ≤ 9223372036854775807) (L2 : List En) (r : Int) (hst : stepK cols xs k L = (L2, r)) :
    Calls Try.prog 21 #[.pointer (some ⟨x, 0, none⟩), v, .int .i64 k] wr (fun y w1 => y = .returned (.int .i64 r) ∧ Below w.heap.size w w1 ∧
      Calls Try.prog 22 #[.pointer (some ⟨s, 0, none⟩), v, .int .i64 k] w1 (fun y w2 => y = .returned (.int .i64 r) ∧ Below w.heap.size w w2 ∧ ∃ Lp cp, w2.cell? ⟨s, 1, none⟩ = some (.slice Lp L2.length cp) ∧
        Calls Try.prog 23 #[.pointer (some ⟨x, 0, none⟩)] w2 (fun y w3 => y = .returned (.int .i64 (L2.length : Int)) ∧ Below w.heap.size w w3 ∧ w3.cell? ⟨s, 1, none⟩ = some (.slice Lp L2.length cp) ∧ ∃ S3, St7 w.heap.size x b s A c cols L2 L2 S3 w3))) := by
  refine (st7_add1 st hcl R v xs k (hv.below hb) hw hk (by omega)).mono ?_
  rw [hst]
  rintro y w1 ⟨rfl, hb1, S1, st1⟩
  have hbw1 := hb.trans hb1
  refine ⟨rfl, hbw1, ?_⟩
  have h2 := st7_add2 (L := L) (S := S1) R v xs k (by rw [hst]; exact st1) hcl (hv.below hbw1) (by omega)
  rw [hst] at h2
  refine h2.mono ?_
  rintro y w2 ⟨rfl, hb2, st2⟩
  have hbw2 := hbw1.trans hb2
  obtain ⟨⟨-, -, Lp, cp, -, -, hbox, -⟩, -⟩ := id st2.ref
  refine ⟨rfl, hbw2, Lp, cp, hbox.cell, (st7_len st2).mono ?_⟩
  rintro y w3 ⟨rfl, hb3⟩
  exact ⟨rfl, hbw2.trans (hb3.mono st2.size), (hb3.cell (p := ⟨s, 1, none⟩) hbox.lt).trans hbox.cell, S1, st2.later hb3⟩

theorem St7.q {h x b s : Nat} {A : Option Addr} {c : Nat} {cols : List Int} {L L' : List En} {S : List Sh} {wr : World} (st : St7 h x b s A c cols L L' S wr) : ∀ k, wr.heap.size ≤ k → (k ∉ mus x b S ∧ k ≠ s) := by
  obtain ⟨D, A', c', hI⟩ := st.idx
  have hm := hI.2.2.2.2.2.1
  have hs := st.ref.lt
  exact fun k hk => ⟨fun h => by have := hm k h; omega, by omega⟩

set_option maxRecDepth 100000 in
set_option maxHeartbeats 4000000 in
theorem indexPlays_main (w : World) (Ac : Option Addr) (cc : Nat) (cols : List Int) (hcl : cols.length ≤ 1100000) (hAc : Ac = none → cc = 0) (hints : IntsAt w w.heap.size Ac cols) (hg : cols.any badC = false) (A : Option Addr) (c : Nat) (es : List WE) (n : Nat) (hn : es.length = n) (hl : n ≤ 100) (hW : WeakE w A es)
    (B : Option Addr) (d m : Nat) (key : List V) (hm : m = key.length) (h50m : m ≤ 50) (hkr : RowAt w w.heap.size B key) (hkw : WideR key) :
    Calls Try.prog 4 #[.slice Ac cols.length cc, .slice A n c, .slice B m d] w fun e w' => e = .returned (.bool true) ∧ Below w.heap.size w w' := by
  have HNEW := Lib.hid (i_new Ac cols cols.length cc w rfl hAc hcl hints hg)
  have HIA := Lib.hid hints
  have hiq : IntsQ w (fun k => k < w.heap.size) Ac cols := hints
  have HIQ := Lib.hid hiq
  have HG := Lib.hid hg
  have HWE := Lib.hid hW
  have HN := Lib.hid hn
  have HM := Lib.hid hm
  have HKR := Lib.hid hkr
  have HKW := Lib.hid hkw
  clear hints hiq hg hW hn hm hkr hkw
  go_enter Try.func4, Try.ntmps4
  go_wp2_with fail
  refine HNEW.out.mono ?_
  rintro e w1 ⟨hb1, x, b, rfl, hx, hb, D, A1, c1, hI⟩
  have HRX := Lib.hid (rx_new_ok Ac cols cols.length cc w1 rfl hcl (HIQ.out.keep (Below.keepQ hb1 _) (fun _ _ h => h)).at HG.out)
  have HST := Lib.hid (St7.new w w1 x b D Ac A1 cc c1 cols HIQ.out hb1 hI hx hb)
  have HB1 := Lib.hid (hb1.trans ((one_new w1 (.cells #[.slice Ac cols.length cc, .slice none 0 0] 45)).mono hb1.size))
  clear hb1 hI hx hb
  go_wp2_with fail
  refine HRX.out.mono ?_
  rintro e w2 ⟨rfl, rfl⟩
  go_wp2
  go_loopw [11] (fun i wr => ∃ (k : Nat) (L : List En) (S : List Sh), k ≤ n ∧ i = .int .i64 k ∧ L.length ≤ k ∧ St7 w.heap.size x b w1.heap.size Ac cc cols L L S wr ∧ Below w.heap.size w wr) (fun i _ => n - (intOf i).toNat)
  case atStart => exact ⟨0, [], [], Nat.zero_le _, rfl, Nat.le_refl _, HST.out, HB1.out⟩
  case round =>
    obtain ⟨k, L, S, hk, rfl, hlk, hst, hbw⟩ := hrel
    have HS := Lib.hid hst
    have HBW := Lib.hid hbw
    clear hst hbw
    by_cases hkn : k < n
    · obtain ⟨e, he⟩ : ∃ e, es[k]? = some e := ⟨_, List.getElem?_eq_getElem (by rw [HN.out]; exact hkn)⟩
      obtain ⟨hok, a, rfl, hblt, c0, c1⟩ := HWE.out k e he
      obtain ⟨at1, cap, row, many⟩ := e
      obtain ⟨o1, o2, o3, o4, o5⟩ := hok
      dsimp only at o1 o2 o3 o4 o5
      have c0' : w.cell? (a.add (k * 2)) = some (.slice at1 row.length cap) := c0
      have H0 := Lib.hid c0'
      have H1 := Lib.hid c1
      have hcr0 := (HBW.out.cell (p := a.add (k * 2)) hblt).trans c0'
      have hcr1 := (HBW.out.cell (p := { block := (a.add (k * 2)).block, off := (a.add (k * 2)).off + 1 }) hblt).trans c1
      unfold maxLen at o1
      clear he c0 c0' c1
      by_cases h50 : 50 < row.length
      · clear o2 o3 o4 o5
        go_wp2_with fail
        refine (known6 _).mono ?_
        rintro e w2 ⟨rfl, hb2⟩
        have HB2 := Lib.hid (HBW.out.trans (hb2.mono HBW.out.size))
        clear hb2
        go_wp2
        go_ret
        exact ⟨rfl, HB2.out⟩
      · have hxr : IsRow w (fun _ => True) (.slice at1 row.length cap) row := ⟨by omega, at1, cap, rfl, o2, RowQ.of o3 fun _ _ => trivial⟩
        have hd := Below.drew (Below.refl wr.heap.size wr)
        obtain ⟨L2, r, hstp⟩ : ∃ L2 r, stepK cols row many L = (L2, r) := ⟨_, _, rfl⟩
        have hL2 : L2.length ≤ k + 1 := by
          have := stepK_len cols row many L
          rw [hstp] at this
          dsimp only at this
          omega
        have HL2 := Lib.hid hL2
        have HC := Lib.hid (round7 (HS.out.later hd) (HBW.out.trans (hd.mono HBW.out.size)) hcl (by omega) _ _ row many hxr o5 o4 L2 r hstp)
        clear o2 o3 o4 o5 hxr hd hstp hL2
        have hne1 : (r != r) = false := by simp
        have hne2 : ((L2.length : Int) != (L2.length : Int)) = false := by simp
        have hne3 : (L2.length != L2.length) = false := by simp
        go_wp2
        refine h_begin (S := (fun W : World => W.cell? (a.add (k * 2)) = some (.slice at1 row.length cap) ∧ W.cell? { block := (a.add (k * 2)).block, off := (a.add (k * 2)).off + 1 } = some (.int .i64 many))) (by kernel_rfl) ?_
        change wpAnyH _ _ _ _ _ 36 (Array.replicate 36 false) _ _
        have hSd : (fun W : World => W.cell? (a.add (k * 2)) = some (.slice at1 row.length cap) ∧ W.cell? { block := (a.add (k * 2)).block, off := (a.add (k * 2)).off + 1 } = some (.int .i64 many)) wr.drew := ⟨hcr0, hcr1⟩
        refine' h_take (i := 0) rfl rfl (by kernel_rfl) (by kernel_rfl) (by kernel_rfl) (by rfl) hSd ?hy1 ?rest1
        case hy1 => (intro w hSw; (try dsimp only at hSw); obtain ⟨hSx, hSy⟩ := hSw; go_simp; (first | done | rfl))
        try simp only [List.setIfInBounds_toArray, List.set_cons_zero, List.set_cons_succ]
        refine' h_take (i := 1) rfl rfl (by kernel_rfl) (by kernel_rfl) (by kernel_rfl) (by rfl) hSd ?hy2 ?rest2
        case hy2 => (intro w hSw; (try dsimp only at hSw); obtain ⟨hSx, hSy⟩ := hSw; go_simp; (first | done | rfl))
        try simp only [List.setIfInBounds_toArray, List.set_cons_zero, List.set_cons_succ]
        refine' h_take (i := 2) rfl rfl (by kernel_rfl) (by kernel_rfl) (by kernel_rfl) (by rfl) hSd ?hy3 ?rest3
        case hy3 => (intro w hSw; (try dsimp only at hSw); obtain ⟨hSx, hSy⟩ := hSw; go_simp; (first | done | rfl))
        try simp only [List.setIfInBounds_toArray, List.set_cons_zero, List.set_cons_succ]
        refine' h_take (i := 3) rfl rfl (by kernel_rfl) (by kernel_rfl) (by kernel_rfl) (by rfl) hSd ?hy4 ?rest4
        case hy4 => (intro w hSw; (try dsimp only at hSw); obtain ⟨hSx, hSy⟩ := hSw; go_simp; (first | done | rfl))
        try simp only [List.setIfInBounds_toArray, List.set_cons_zero, List.set_cons_succ]
        refine' h_take (i := 4) rfl rfl (by kernel_rfl) (by kernel_rfl) (by kernel_rfl) (by rfl) hSd ?hy5 ?rest5
        case hy5 => (intro w hSw; (try dsimp only at hSw); obtain ⟨hSx, hSy⟩ := hSw; go_simp; (first | done | rfl))
        try simp only [List.setIfInBounds_toArray, List.set_cons_zero, List.set_cons_succ]
        refine' h_take (i := 5) rfl rfl (by kernel_rfl) (by kernel_rfl) (by kernel_rfl) (by rfl) hSd ?hy6 ?rest6
        case hy6 => (intro w hSw; (try dsimp only at hSw); obtain ⟨hSx, hSy⟩ := hSw; go_simp; (first | done | rfl))
        try simp only [List.setIfInBounds_toArray, List.set_cons_zero, List.set_cons_succ]
        refine' h_take (i := 6) rfl rfl (by kernel_rfl) (by kernel_rfl) (by kernel_rfl) (by rfl) hSd ?hy7 ?rest7
        case hy7 => (intro w hSw; (try dsimp only at hSw); obtain ⟨hSx, hSy⟩ := hSw; go_simp; (first | done | rfl))
        try simp only [List.setIfInBounds_toArray, List.set_cons_zero, List.set_cons_succ]
        refine' h_take (i := 7) rfl rfl (by kernel_rfl) (by kernel_rfl) (by kernel_rfl) (by rfl) hSd ?hy8 ?rest8
        case hy8 => (intro w hSw; (try dsimp only at hSw); obtain ⟨hSx, hSy⟩ := hSw; go_simp; (first | done | rfl))
        try simp only [List.setIfInBounds_toArray, List.set_cons_zero, List.set_cons_succ]
        refine' h_take (i := 8) rfl rfl (by kernel_rfl) (by kernel_rfl) (by kernel_rfl) (by rfl) hSd ?hy9 ?rest9
        case hy9 => (intro w hSw; (try dsimp only at hSw); obtain ⟨hSx, hSy⟩ := hSw; go_simp; (first | done | rfl))
        try simp only [List.setIfInBounds_toArray, List.set_cons_zero, List.set_cons_succ]
        refine' h_take (i := 9) rfl rfl (by kernel_rfl) (by kernel_rfl) (by kernel_rfl) (by rfl) hSd ?hy10 ?rest10
        case hy10 => (intro w hSw; (try dsimp only at hSw); obtain ⟨hSx, hSy⟩ := hSw; go_simp; (first | done | rfl))
        try simp only [List.setIfInBounds_toArray, List.set_cons_zero, List.set_cons_succ]
        refine' h_take (i := 10) rfl rfl (by kernel_rfl) (by kernel_rfl) (by kernel_rfl) (by rfl) hSd ?hy11 ?rest11
        case hy11 => (intro w hSw; (try dsimp only at hSw); obtain ⟨hSx, hSy⟩ := hSw; go_simp; (first | done | rfl))
        try simp only [List.setIfInBounds_toArray, List.set_cons_zero, List.set_cons_succ]
        refine' h_take (i := 12) rfl rfl (by kernel_rfl) (by kernel_rfl) (by kernel_rfl) (by rfl) hSd ?hy12 ?rest12
        case hy12 => (intro w hSw; (try dsimp only at hSw); obtain ⟨hSx, hSy⟩ := hSw; go_simp; (first | done | rfl))
        try simp only [List.setIfInBounds_toArray, List.set_cons_zero, List.set_cons_succ]
        refine' h_take (i := 13) rfl rfl (by kernel_rfl) (by kernel_rfl) (by kernel_rfl) (by rfl) hSd ?hy13 ?rest13
        case hy13 => (intro w hSw; (try dsimp only at hSw); obtain ⟨hSx, hSy⟩ := hSw; go_simp; (first | done | rfl))
        try simp only [List.setIfInBounds_toArray, List.set_cons_zero, List.set_cons_succ]
        refine' h_take (i := 14) rfl rfl (by kernel_rfl) (by kernel_rfl) (by kernel_rfl) (by rfl) hSd ?hy14 ?rest14
        case hy14 => (intro w hSw; (try dsimp only at hSw); obtain ⟨hSx, hSy⟩ := hSw; go_simp; (first | done | rfl))
        try simp only [List.setIfInBounds_toArray, List.set_cons_zero, List.set_cons_succ]
        refine' h_take (i := 15) rfl rfl (by kernel_rfl) (by kernel_rfl) (by kernel_rfl) (by rfl) hSd ?hy15 ?rest15
        case hy15 => (intro w hSw; (try dsimp only at hSw); obtain ⟨hSx, hSy⟩ := hSw; go_simp; (first | done | rfl))
        try simp only [List.setIfInBounds_toArray, List.set_cons_zero, List.set_cons_succ]
        refine' h_take (i := 16) rfl rfl (by kernel_rfl) (by kernel_rfl) (by kernel_rfl) (by rfl) hSd ?hy16 ?rest16
        case hy16 => (intro w hSw; (try dsimp only at hSw); obtain ⟨hSx, hSy⟩ := hSw; go_simp; (first | done | rfl))
        try simp only [List.setIfInBounds_toArray, List.set_cons_zero, List.set_cons_succ]
        refine' h_take (i := 17) rfl rfl (by kernel_rfl) (by kernel_rfl) (by kernel_rfl) (by rfl) hSd ?hy17 ?rest17
        case hy17 => (intro w hSw; (try dsimp only at hSw); obtain ⟨hSx, hSy⟩ := hSw; go_simp; (first | done | rfl))
        try simp only [List.setIfInBounds_toArray, List.set_cons_zero, List.set_cons_succ]
        refine' h_take (i := 18) rfl rfl (by kernel_rfl) (by kernel_rfl) (by kernel_rfl) (by rfl) hSd ?hy18 ?rest18
        case hy18 => (intro w hSw; (try dsimp only at hSw); obtain ⟨hSx, hSy⟩ := hSw; go_simp; (first | done | rfl))
        try simp only [List.setIfInBounds_toArray, List.set_cons_zero, List.set_cons_succ]
        refine' h_take (i := 19) rfl rfl (by kernel_rfl) (by kernel_rfl) (by kernel_rfl) (by rfl) hSd ?hy19 ?rest19
        case hy19 => (intro w hSw; (try dsimp only at hSw); obtain ⟨hSx, hSy⟩ := hSw; go_simp; (first | done | rfl))
        try simp only [List.setIfInBounds_toArray, List.set_cons_zero, List.set_cons_succ]
        refine' h_take (i := 20) rfl rfl (by kernel_rfl) (by kernel_rfl) (by kernel_rfl) (by rfl) hSd ?hy20 ?rest20
        case hy20 => (intro w hSw; (try dsimp only at hSw); obtain ⟨hSx, hSy⟩ := hSw; go_simp; (first | done | rfl))
        try simp only [List.setIfInBounds_toArray, List.set_cons_zero, List.set_cons_succ]
        refine' h_take (i := 21) rfl rfl (by kernel_rfl) (by kernel_rfl) (by kernel_rfl) (by rfl) hSd ?hy21 ?rest21
        case hy21 => (intro w hSw; (try dsimp only at hSw); obtain ⟨hSx, hSy⟩ := hSw; go_simp; (first | done | rfl))
        try simp only [List.setIfInBounds_toArray, List.set_cons_zero, List.set_cons_succ]
        refine' h_take (i := 22) rfl rfl (by kernel_rfl) (by kernel_rfl) (by kernel_rfl) (by rfl) hSd ?hy22 ?rest22
        case hy22 => (intro w hSw; (try dsimp only at hSw); obtain ⟨hSx, hSy⟩ := hSw; go_simp; (first | done | rfl))
        try simp only [List.setIfInBounds_toArray, List.set_cons_zero, List.set_cons_succ]
        refine' h_next (i := 11) (by kernel_rfl) rfl (by rfl) ?_
        intro K hK
        go_simp
        refine HC.out.mono ?_
        rintro y w3 ⟨rfl, hb3, hc3⟩
        have HC3 := Lib.hid hc3
        have hSd3 : (fun W : World => W.cell? (a.add (k * 2)) = some (.slice at1 row.length cap) ∧ W.cell? { block := (a.add (k * 2)).block, off := (a.add (k * 2)).off + 1 } = some (.int .i64 many)) w3 := ⟨(hb3.cell (p := a.add (k * 2)) hblt).trans H0.out, (hb3.cell (p := { block := (a.add (k * 2)).block, off := (a.add (k * 2)).off + 1 }) hblt).trans H1.out⟩
        clear hc3
        refine hK.out _ _ hSd3 ?_
        clear hK K
        try simp only [List.setIfInBounds_toArray, List.set_cons_zero, List.set_cons_succ]
        refine' h_next (i := 23) (by kernel_rfl) rfl (by rfl) ?_
        intro K hK
        go_simp
        refine HC3.out.mono ?_
        rintro y w4 ⟨rfl, hb4, Lp, cp, hcl4, hc4⟩
        have HC4 := Lib.hid hc4
        have hSd4 : (fun W : World => W.cell? (a.add (k * 2)) = some (.slice at1 row.length cap) ∧ W.cell? { block := (a.add (k * 2)).block, off := (a.add (k * 2)).off + 1 } = some (.int .i64 many)) w4 := ⟨(hb4.cell (p := a.add (k * 2)) hblt).trans H0.out, (hb4.cell (p := { block := (a.add (k * 2)).block, off := (a.add (k * 2)).off + 1 }) hblt).trans H1.out⟩
        have hSe : (fun W : World => (W.cell? (a.add (k * 2)) = some (.slice at1 row.length cap) ∧ W.cell? { block := (a.add (k * 2)).block, off := (a.add (k * 2)).off + 1 } = some (.int .i64 many)) ∧ W.cell? { block := w1.heap.size, off := 1 } = some (.slice Lp L2.length cp)) w4 := ⟨hSd4, hcl4⟩
        clear hc4
        refine hK.out _ _ hSd4 ?_
        clear hK K
        try simp only [List.setIfInBounds_toArray, List.set_cons_zero, List.set_cons_succ]
        refine h_more (S' := (fun W : World => (W.cell? (a.add (k * 2)) = some (.slice at1 row.length cap) ∧ W.cell? { block := (a.add (k * 2)).block, off := (a.add (k * 2)).off + 1 } = some (.int .i64 many)) ∧ W.cell? { block := w1.heap.size, off := 1 } = some (.slice Lp L2.length cp))) (fun _ h => h.1) _ _ _ _ ?_
        clear hSd hSd3 hSd4
        refine' h_take (i := 24) (v := Value.bool false) rfl rfl (by kernel_rfl) (by kernel_rfl) (by kernel_rfl) (by rfl) hSe ?hy23 ?rest23
        case hy23 => (intro w hSw; (try dsimp only at hSw); obtain ⟨⟨hSx, hSy⟩, hSz⟩ := hSw; go_simp; (first | done | rfl))
        try simp only [List.setIfInBounds_toArray, List.set_cons_zero, List.set_cons_succ]
        refine' h_take (i := 25) rfl rfl (by kernel_rfl) (by kernel_rfl) (by kernel_rfl) (by rfl) hSe ?hy24 ?rest24
        case hy24 => (intro w hSw; (try dsimp only at hSw); obtain ⟨⟨hSx, hSy⟩, hSz⟩ := hSw; go_simp; (first | done | rfl))
        try simp only [List.setIfInBounds_toArray, List.set_cons_zero, List.set_cons_succ]
        refine' h_take (i := 26) rfl rfl (by kernel_rfl) (by kernel_rfl) (by kernel_rfl) (by rfl) hSe ?hy25 ?rest25
        case hy25 => (intro w hSw; (try dsimp only at hSw); obtain ⟨⟨hSx, hSy⟩, hSz⟩ := hSw; go_simp; (first | done | rfl))
        try simp only [List.setIfInBounds_toArray, List.set_cons_zero, List.set_cons_succ]
        refine' h_take (i := 28) rfl rfl (by kernel_rfl) (by kernel_rfl) (by kernel_rfl) (by rfl) hSe ?hy26 ?rest26
        case hy26 => (intro w hSw; (try dsimp only at hSw); obtain ⟨⟨hSx, hSy⟩, hSz⟩ := hSw; go_simp; (first | done | rfl))
        try simp only [List.setIfInBounds_toArray, List.set_cons_zero, List.set_cons_succ]
        refine' h_take (i := 29) rfl rfl (by kernel_rfl) (by kernel_rfl) (by kernel_rfl) (by rfl) hSe ?hy27 ?rest27
        case hy27 => (intro w hSw; (try dsimp only at hSw); obtain ⟨⟨hSx, hSy⟩, hSz⟩ := hSw; go_simp; (first | done | rfl))
        try simp only [List.setIfInBounds_toArray, List.set_cons_zero, List.set_cons_succ]
        refine' h_take (i := 30) rfl rfl (by kernel_rfl) (by kernel_rfl) (by kernel_rfl) (by rfl) hSe ?hy28 ?rest28
        case hy28 => (intro w hSw; (try dsimp only at hSw); obtain ⟨⟨hSx, hSy⟩, hSz⟩ := hSw; go_simp; (first | done | rfl))
        try simp only [List.setIfInBounds_toArray, List.set_cons_zero, List.set_cons_succ]
        refine' h_take (i := 31) rfl rfl (by kernel_rfl) (by kernel_rfl) (by kernel_rfl) (by rfl) hSe ?hy29 ?rest29
        case hy29 => (intro w hSw; (try dsimp only at hSw); obtain ⟨⟨hSx, hSy⟩, hSz⟩ := hSw; go_simp; (first | done | rfl))
        try simp only [List.setIfInBounds_toArray, List.set_cons_zero, List.set_cons_succ]
        refine' h_take (i := 32) rfl rfl (by kernel_rfl) (by kernel_rfl) (by kernel_rfl) (by rfl) hSe ?hy30 ?rest30
        case hy30 => (intro w hSw; (try dsimp only at hSw); obtain ⟨⟨hSx, hSy⟩, hSz⟩ := hSw; go_simp; (first | done | rfl))
        try simp only [List.setIfInBounds_toArray, List.set_cons_zero, List.set_cons_succ]
        refine' h_take (i := 33) rfl rfl (by kernel_rfl) (by kernel_rfl) (by kernel_rfl) (by rfl) hSe ?hy31 ?rest31
        case hy31 => (intro w hSw; (try dsimp only at hSw); obtain ⟨⟨hSx, hSy⟩, hSz⟩ := hSw; go_simp; (first | done | rfl))
        try simp only [List.setIfInBounds_toArray, List.set_cons_zero, List.set_cons_succ]
        refine' h_next (i := 27) (by kernel_rfl) rfl (by rfl) ?_
        intro K hK
        go_simp
        refine HC4.out.mono ?_
        rintro y w5 ⟨rfl, hb5, hcl5, S5, hst5⟩
        have hSe5 : (fun W : World => (W.cell? (a.add (k * 2)) = some (.slice at1 row.length cap) ∧ W.cell? { block := (a.add (k * 2)).block, off := (a.add (k * 2)).off + 1 } = some (.int .i64 many)) ∧ W.cell? { block := w1.heap.size, off := 1 } = some (.slice Lp L2.length cp)) w5 := ⟨⟨(hb5.cell (p := a.add (k * 2)) hblt).trans H0.out, (hb5.cell (p := { block := (a.add (k * 2)).block, off := (a.add (k * 2)).off + 1 }) hblt).trans H1.out⟩, hcl5⟩
        refine hK.out _ _ hSe5 ?_
        clear hK K
        try simp only [List.setIfInBounds_toArray, List.set_cons_zero, List.set_cons_succ]
        clear hSe
        have hSe := hSe5
        clear hSe5
        refine' h_take (i := 34) (v := Value.bool false) rfl rfl (by kernel_rfl) (by kernel_rfl) (by kernel_rfl) (by rfl) hSe ?hy32 ?rest32
        case hy32 => (intro w hSw; (try dsimp only at hSw); obtain ⟨⟨hSx, hSy⟩, hSz⟩ := hSw; go_simp; (first | done | rfl))
        try simp only [List.setIfInBounds_toArray, List.set_cons_zero, List.set_cons_succ]
        refine' h_take (i := 35) rfl rfl (by kernel_rfl) (by kernel_rfl) (by kernel_rfl) (by rfl) hSe ?hy33 ?rest33
        case hy33 => (intro w hSw; (try dsimp only at hSw); obtain ⟨⟨hSx, hSy⟩, hSz⟩ := hSw; go_simp; (first | done | rfl))
        try simp only [List.setIfInBounds_toArray, List.set_cons_zero, List.set_cons_succ]
        refine h_done (by kernel_rfl) ?_
        go_wp2
        go_roundw
        case rel => exact ⟨k + 1, L2, S5, by omega, by go_num, HL2.out, hst5, hb5⟩
        case measure => simp [intOf]; omega
    · obtain rfl : k = n := by omega
      have hLn : L.length ≤ 100 := by omega
      clear hlk hkn hk
      go_wp2_with fail
      refine (st7_find1 HS.out B key m d HM.out (by omega) HKW.out (HKR.out.later HBW.out)).mono ?_
      rintro y w3 ⟨F, c2, rfl, hE, hb3⟩
      have HE := Lib.hid hE
      have HS3 := Lib.hid (HS.out.later hb3)
      have HB3 := Lib.hid (HBW.out.trans (hb3.mono HBW.out.size))
      clear hE hb3
      go_wp2_with fail
      refine (rx_find _ w1.heap.size Ac cc cols L B key m d w3 HS3.out.q HS3.out.ref hcl HM.out (HKR.out.later HB3.out) HS3.out.fits (by omega)).mono ?_
      rintro y w4 ⟨v, ls, rfl, hown, hen, hb4⟩
      obtain ⟨Ap, cp, rfl, -, -, hcells⟩ := hown.slice (fun _ => True) (fun _ _ => trivial)
      have hln := hen.len
      have HEQ : Hid (EntsQ w4 (fun _ => True) Ap (L.filter (hitK cols key))) := Lib.hid ⟨ls, hen.imp (fun _ _ _ => trivial), hcells⟩
      have HE4 := Lib.hid (HE.out.below hb4)
      have HS4 := Lib.hid (HS3.out.later hb4)
      have HB4 := Lib.hid (HB3.out.trans (hb4.mono HB3.out.size))
      rw [hln]
      clear hown hen hb4 hcells hln
      have hfl : (L.filter (hitK cols key)).length ≤ 100 := Nat.le_trans (List.length_filter_le _ _) hLn
      have HRH := Lib.hid (fun (W : World) (st : St7 w.heap.size x b w1.heap.size Ac cc cols L L S W) (hk : RowAt W W.heap.size B key) => rx_has _ w1.heap.size Ac cc cols L B key m d W st.q st.ref hcl HM.out hk st.fits (by omega))
      have HH1 := Lib.hid (fun (W : World) (st : St7 w.heap.size x b w1.heap.size Ac cc cols L L S W) (hk : RowAt W W.heap.size B key) => st7_has1 st B key m d HM.out (by omega) HKW.out hk)
      generalize L.filter (hitK cols key) = FL at *
      go_wp2_with fail
      refine (r_alikeI _ _ F Ap FL FL FL.length FL.length c2 cp w4 rfl rfl (by omega) HE4.out HEQ.out).mono ?_
      rintro y w5 ⟨rfl, nd, rfl⟩
      rw [alikeI_self]
      have hb5 : Below w4.heap.size w4 (w4.drewN nd) := below_drewN' (Below.refl _ _) nd
      have HS5 := Lib.hid (HS4.out.later hb5)
      have HB5 := Lib.hid (HB4.out.trans (hb5.mono HB4.out.size))
      clear hb5
      generalize w4.drewN nd = w5 at *
      have he1 : (sumM FL == sumM FL) = true := by simp
      go_wp2_with fail
      refine (HH1.out w5 HS5.out (HKR.out.later HB5.out)).mono ?_
      rintro y w6 ⟨rfl, hb6⟩
      have HS6 := Lib.hid (HS5.out.later hb6)
      have HB6 := Lib.hid (HB5.out.trans (hb6.mono HB5.out.size))
      clear hb6
      go_wp2_with fail
      refine (HRH.out w6 HS6.out (HKR.out.later HB6.out)).mono ?_
      rintro y w7 ⟨rfl, hb7⟩
      have HS7 := Lib.hid (HS6.out.later hb7)
      have HB7 := Lib.hid (HB6.out.trans (hb7.mono HB6.out.size))
      clear hb7
      have HK1 := Lib.hid (st7_keys1 HS7.out)
      have HK2 := Lib.hid (rx_keys _ w1.heap.size Ac cc cols L w7 HS7.out.ref hcl HS7.out.fits (by omega))
      generalize (sortL (picksL cols L)).length = kn at *
      go_wp2_with fail
      refine HK1.out.mono ?_
      rintro y w8 ⟨rfl, rfl⟩
      go_wp2_with fail
      refine HK2.out.mono ?_
      rintro y w8 ⟨rfl, hb8⟩
      have HB8 := Lib.hid (HB7.out.trans (hb8.mono HB7.out.size))
      clear hb8
      go_wp2_with fail
      refine (known6 _).mono ?_
      rintro y w9 ⟨rfl, hb9⟩
      have HB9 := Lib.hid (HB8.out.trans (hb9.mono HB8.out.size))
      clear hb9
      go_wp2
      go_ret
      exact ⟨rfl, HB9.out⟩
end Go.Proofs.Ytmdkjhnafnblkaa
