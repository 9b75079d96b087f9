/-
  Check of package guard and of layer 15's document: where a rule is not safe.
  Condition: a rule of which not very much is to be read.
  Whether a rule has few parts with short texts, told by the document: what follows where it says so, for a rule with all its terms.
  Condition: what lies in memory as a rule of any length.
  From what the document's parser answers to a rule as layer 15 sees it; the two fixed texts.
  No condition.
  What the statements of layer 15 ask of fixed calls comes.
  No condition.
-/
import Derived.Handy
import Derived.KernelRfl
import Derived.Test.YtmkejlhkipngnaaM30
import Derived.Test.YtmkejlhkipngnaaM34
import Derived.Test.YtmkejlhkipngnaaM35
namespace Go.Proofs.Ytmkejlhkipngnaa
section
open Go.RowKit Go.Maps

/-- Where a rule is not safe, and the error's number. -/
noncomputable def checkX (r : RuP) : Int × Int := if !(r.body.any atomB) then (-1, 12) else if (freeX r).2.2 then ((freeX r).2.1, 12) else (0, 0)
theorem any_next {α : Type} (f : α → Bool) (l : List α) (k : Nat) (x : α) (h : l[k]? = some x) : (l.take (k + 1)).any f = ((l.take k).any f || f x) := by
  rw [List.take_add_one, h, Option.toList_some, List.any_append]
  simp
theorem any_of {α : Type} (f : α → Bool) (l : List α) (k : Nat) (x : α) (h : l[k]? = some x) (hf : f x = true) : l.any f = true :=
  List.any_eq_true.2 ⟨x, List.mem_of_getElem? h, hf⟩

set_option maxRecDepth 100000 in
set_option maxHeartbeats 2000000 in
theorem g_bindsAny (body : List LmG) (A : Option Addr) (c : Nat) (w : World) (hl : body.length ≤ 1000000) (h : LgsAt w A body) :
    Calls Try.prog 21 #[.slice A body.length c] w fun e w' => e = .returned (.bool ((body.map LmG.li).any atomB)) ∧ Below w.heap.size w w' := by
  have HA := Lib.hid h
  obtain ⟨B, hB⟩ : ∃ B, B = (body.map LmG.li).any atomB := ⟨_, rfl⟩
  rw [← hB]
  have HB0 := Lib.hid hB
  clear h hB
  go_enter Try.func21, Try.ntmps21
  go_wp2
  go_loopw [7] (fun i wr => ∃ k : Nat, i = .int .i64 k ∧ k ≤ body.length ∧ Hid (((body.map LmG.li).take k).any atomB = false) ∧ Below w.heap.size w wr) (fun i _ => body.length - (intOf i).toNat)
  case atStart => exact ⟨0, rfl, Nat.zero_le _, Lib.hid rfl, Below.refl _ _⟩
  case round =>
    obtain ⟨k, rfl, hk, HNO, hb⟩ := hrel
    have HB := Lib.hid hb
    have hta := HA.out.below hb
    clear hb
    by_cases hlt : k < body.length
    · obtain ⟨x, hx⟩ : ∃ x, body[k]? = some x := ⟨_, List.getElem?_eq_getElem hlt⟩
      have hlx : (body.map LmG.li)[k]? = some x.li := by rw [List.getElem?_map, hx]; rfl
      obtain ⟨a, rfl, a0, a1, a2, a3⟩ := els_L hta.1 hx
      have hnx := any_next atomB _ k x.li hlx
      rw [HNO.out, Bool.false_or] at hnx
      have hal := any_of atomB _ k x.li hlx
      rw [← HB0.out] at hal
      have HBI := Lib.hid (g_binds x)
      obtain ⟨q, hq⟩ : ∃ q, atomB x.li = q := ⟨_, rfl⟩
      rw [hq] at HBI hnx hal
      have HNX := Lib.hid hnx
      have HAL := Lib.hid hal
      obtain ⟨yn, ys, yA, yc, yargs, yo⟩ := x
      have HBI : Hid (∀ W, Calls Try.prog 22 #[.agg #[.bool yn, .string ys, .slice yA yargs.length yc, .int .i64 yo]] W fun e w' => e = .returned (.bool q) ∧ Below W.heap.size W w') := HBI
      clear hta hx hlx hnx hal hq
      go_wp2_with fail
      refine (HBI.out _).mono ?_
      rintro e w2 ⟨rfl, hb2⟩
      have HB2 := Lib.hid (HB.out.trans (((one_new wr (.cells #[.bool yn, .string ys, .slice yA yargs.length yc, .int .i64 yo] 41)).trans (hb2.mono (by simp))).mono HB.out.size))
      clear hb2 HBI a0 a1 a2 a3
      cases q with
      | true =>
        have hbt : B = true := HAL.out rfl
        clear HAL HNX HB0
        subst hbt
        go_wp2
        go_ret
        exact ⟨rfl, HB2.out⟩
      | false =>
        go_wp2
        go_roundw
        case rel => exact ⟨k + 1, by go_num, by omega, HNX, HB2.out⟩
        case measure => simp [intOf]; omega
    · have hd : B = false := by
        rw [HB0.out, ← HNO.out, List.take_of_length_le (by rw [List.length_map]; omega)]
      clear hta HB0
      subst hd
      go_wp2
      go_ret
      exact ⟨rfl, HB.out⟩

set_option maxRecDepth 100000 in
set_option maxHeartbeats 2000000 in
theorem p_Check (r : RuG) (w : World) (hr : r.Ok w) (hsm : r.Sml) :
    Calls Try.prog 9 #[.agg r.cells] w fun e w' => e = .returned (.tuple #[.int .i64 (checkX r.pl).1, .int .i64 (checkX r.pl).2]) ∧ Below w.heap.size w w' := by
  obtain ⟨k0, nm, hA, hc, head, ag, ofv, lim, bA, bc, body⟩ := r
  obtain ⟨q, hq⟩ : ∃ q, (body.map LmG.li).any atomB = q := ⟨_, rfl⟩
  obtain ⟨F, hF⟩ : ∃ F, freeX (RuG.pl (⟨k0, nm, hA, hc, head, ag, ofv, lim, bA, bc, body⟩ : RuG)) = F := ⟨_, rfl⟩
  have hC : checkX (RuG.pl (⟨k0, nm, hA, hc, head, ag, ofv, lim, bA, bc, body⟩ : RuG)) = if !q then (-1, 12) else if F.2.2 then (F.2.1, 12) else (0, 0) := by rw [← hq, ← hF]; rfl
  rw [hC]
  show Calls Try.prog 9 #[.agg #[.int .i64 k0, .string nm, .slice hA head.length hc, .int .i64 ag, .string ofv, .int .i64 lim, .slice bA body.length bc]] w fun e w' => e = .returned (.tuple #[.int .i64 (if !q then (-1, 12) else if F.2.2 then (F.2.1, 12) else (0, 0) : Int × Int).1, .int .i64 (if !q then (-1, 12) else if F.2.2 then (F.2.1, 12) else (0, 0) : Int × Int).2]) ∧ Below w.heap.size w w'
  have hon := one_new w (.cells #[.int .i64 k0, .string nm, .slice hA head.length hc, .int .i64 ag, .string ofv, .int .i64 lim, .slice bA body.length bc] 25)
  have hok0 := hr.below hon
  have hz0 : (w.alloc (.cells #[.int .i64 k0, .string nm, .slice hA head.length hc, .int .i64 ag, .string ofv, .int .i64 lim, .slice bA body.length bc] 25)).heap.size = w.heap.size + 1 := World.size_alloc _ _
  have hbl : body.length ≤ 41 := hsm.2.1
  have hba := g_bindsAny body bA bc (w.alloc (.cells #[.int .i64 k0, .string nm, .slice hA head.length hc, .int .i64 ag, .string ofv, .int .i64 lim, .slice bA body.length bc] 25)) (by omega) hok0.2
  rw [hq] at hba
  have HBA := Lib.hid hba
  have HPF : Hid (∀ W, Below (w.alloc (.cells #[.int .i64 k0, .string nm, .slice hA head.length hc, .int .i64 ag, .string ofv, .int .i64 lim, .slice bA body.length bc] 25)).heap.size (w.alloc (.cells #[.int .i64 k0, .string nm, .slice hA head.length hc, .int .i64 ag, .string ofv, .int .i64 lim, .slice bA body.length bc] 25)) W → Calls Try.prog 7 #[.agg #[.int .i64 k0, .string nm, .slice hA head.length hc, .int .i64 ag, .string ofv, .int .i64 lim, .slice bA body.length bc]] W fun e w' => e = .returned (.tuple #[.string F.1, .int .i64 F.2.1, .bool F.2.2]) ∧ Below W.heap.size W w') := Lib.hid (fun W hW => by rw [← hF]; exact p_Free (⟨k0, nm, hA, hc, head, ag, ofv, lim, bA, bc, body⟩ : RuG) W (hok0.below hW) hsm)
  have HON := Lib.hid hon
  have HBX := Lib.hid (heap_alloc_new w (.cells #[.int .i64 k0, .string nm, .slice hA head.length hc, .int .i64 ag, .string ofv, .int .i64 lim, .slice bA body.length bc] 25))
  have HZ0 := Lib.hid hz0
  clear hba hr hF hq hC hon hok0 hsm hz0
  go_enter Try.func9, Try.ntmps9
  go_wp2_with fail
  refine HBA.out.mono ?_
  rintro e w2 ⟨rfl, hb2⟩
  obtain ⟨n0, n1, n2, n3, n4, n5, n6⟩ := box7g_of ((hb2.block w.heap.size (by rw [HZ0.out]; omega)).trans HBX.out)
  have HB2 := Lib.hid hb2
  have HW2 := Lib.hid (HON.out.trans (hb2.mono (by rw [HZ0.out]; omega)))
  clear hb2 HBA HBX
  cases q with
  | false =>
    go_wp2
    go_returns
    exact ⟨rfl, HW2.out⟩
  | true =>
    go_wp2_with fail
    refine (HPF.out _ HB2.out).mono ?_
    rintro e w3 ⟨rfl, hb3⟩
    have HW3 := Lib.hid (HW2.out.trans (hb3.mono HW2.out.size))
    obtain ⟨F1, F2, F3⟩ := F
    clear hb3 HPF n0 n1 n2 n3 n4 n5 n6
    cases F3 with
    | true =>
      go_wp2
      go_returns
      exact ⟨rfl, HW3.out⟩
    | false =>
      go_wp2
      go_returns
      exact ⟨rfl, HW3.out⟩

set_option maxRecDepth 100000 in
set_option maxHeartbeats 4000000 in
theorem r_Check (r : RuG) (w : World) (hr : r.Ok w) (hsm : r.Sml) :
    Calls Try.prog 10 #[.agg r.cells] w fun e w' => e = .returned (.tuple #[.int .i64 (checkX r.pl).1, .int .i64 (checkX r.pl).2]) ∧ Below w.heap.size w w' := by
  obtain ⟨k0, nm, hA, hc, head, ag, ofv, lim, bA, bc, body⟩ := r
  obtain ⟨B, hB⟩ : ∃ B, B = (body.map LmG.li).any atomB := ⟨_, rfl⟩
  obtain ⟨F, hF⟩ : ∃ F, freeX (RuG.pl (⟨k0, nm, hA, hc, head, ag, ofv, lim, bA, bc, body⟩ : RuG)) = F := ⟨_, rfl⟩
  have hC : checkX (RuG.pl (⟨k0, nm, hA, hc, head, ag, ofv, lim, bA, bc, body⟩ : RuG)) = if !B then (-1, 12) else if F.2.2 then (F.2.1, 12) else (0, 0) := by rw [hB, ← hF]; rfl
  rw [hC]
  show Calls Try.prog 10 #[.agg #[.int .i64 k0, .string nm, .slice hA head.length hc, .int .i64 ag, .string ofv, .int .i64 lim, .slice bA body.length bc]] w fun e w' => e = .returned (.tuple #[.int .i64 (if !B then (-1, 12) else if F.2.2 then (F.2.1, 12) else (0, 0) : Int × Int).1, .int .i64 (if !B then (-1, 12) else if F.2.2 then (F.2.1, 12) else (0, 0) : Int × Int).2]) ∧ Below w.heap.size w w'
  have hon := one_new w (.cells #[.int .i64 k0, .string nm, .slice hA head.length hc, .int .i64 ag, .string ofv, .int .i64 lim, .slice bA body.length bc] 25)
  have hok0 := hr.below hon
  have hz0 : (w.alloc (.cells #[.int .i64 k0, .string nm, .slice hA head.length hc, .int .i64 ag, .string ofv, .int .i64 lim, .slice bA body.length bc] 25)).heap.size = w.heap.size + 1 := World.size_alloc _ _
  have hbl : body.length ≤ 41 := hsm.2.1
  have HPF : Hid (∀ W, Below (w.alloc (.cells #[.int .i64 k0, .string nm, .slice hA head.length hc, .int .i64 ag, .string ofv, .int .i64 lim, .slice bA body.length bc] 25)).heap.size (w.alloc (.cells #[.int .i64 k0, .string nm, .slice hA head.length hc, .int .i64 ag, .string ofv, .int .i64 lim, .slice bA body.length bc] 25)) W → Calls Try.prog 8 #[.agg #[.int .i64 k0, .string nm, .slice hA head.length hc, .int .i64 ag, .string ofv, .int .i64 lim, .slice bA body.length bc]] W fun e w' => e = .returned (.tuple #[.string F.1, .int .i64 F.2.1, .bool F.2.2]) ∧ Below W.heap.size W w') := Lib.hid (fun W hW => by rw [← hF]; exact r_Free (⟨k0, nm, hA, hc, head, ag, ofv, lim, bA, bc, body⟩ : RuG) W (hok0.below hW) hsm)
  have HLG : Hid (LgsAt (w.alloc (.cells #[.int .i64 k0, .string nm, .slice hA head.length hc, .int .i64 ag, .string ofv, .int .i64 lim, .slice bA body.length bc] 25)) bA body) := Lib.hid hok0.2
  have HON := Lib.hid hon
  have HBX := Lib.hid (heap_alloc_new w (.cells #[.int .i64 k0, .string nm, .slice hA head.length hc, .int .i64 ag, .string ofv, .int .i64 lim, .slice bA body.length bc] 25))
  have HZ0 := Lib.hid hz0
  have HB0 := Lib.hid hB
  clear hr hF hC hon hok0 hsm hB hz0
  go_enter Try.func10, Try.ntmps10
  go_wp2
  obtain ⟨W0, hW0⟩ : ∃ W0, W0 = (w.alloc (.cells #[.int .i64 k0, .string nm, .slice hA head.length hc, .int .i64 ag, .string ofv, .int .i64 lim, .slice bA body.length bc] 25)) := ⟨_, rfl⟩
  rw [← hW0] at HPF HLG HON HBX HZ0
  have HRF : Hid (Below W0.heap.size W0 (w.alloc (.cells #[.int .i64 k0, .string nm, .slice hA head.length hc, .int .i64 ag, .string ofv, .int .i64 lim, .slice bA body.length bc] 25))) := Lib.hid (by rw [hW0]; exact Below.refl _ _)
  clear hW0
  go_loopw [4, 5] (fun v i wr => ∃ k : Nat, i = .int .i64 k ∧ k ≤ body.length ∧ v = .bool (((body.map LmG.li).take k).any atomB) ∧ Below W0.heap.size W0 wr) (fun _ i _ => body.length - (intOf i).toNat)
  case atStart => exact ⟨0, rfl, Nat.zero_le _, rfl, HRF.out⟩
  case round =>
    obtain ⟨k, rfl, hk, rfl, hb⟩ := hrel
    have HB := Lib.hid hb
    have hta := HLG.out.below hb
    obtain ⟨n0, n1, n2, n3, n4, n5, n6⟩ := box7g_of ((hb.block w.heap.size (by rw [HZ0.out]; omega)).trans HBX.out)
    clear hb
    obtain ⟨S, hS⟩ : ∃ S, ((body.map LmG.li).take k).any atomB = S := ⟨_, rfl⟩
    rw [hS]
    by_cases hlt : k < body.length
    · obtain ⟨x, hx⟩ : ∃ x, body[k]? = some x := ⟨_, List.getElem?_eq_getElem hlt⟩
      have hlx : (body.map LmG.li)[k]? = some x.li := by rw [List.getElem?_map, hx]; rfl
      obtain ⟨a, rfl, a0, a1, a2, a3⟩ := els_L hta.1 hx
      have hnx := any_next atomB _ k x.li hlx
      rw [hS] at hnx
      have HBI := Lib.hid (r_atom15 x)
      obtain ⟨q, hq⟩ : ∃ q, atomB x.li = q := ⟨_, rfl⟩
      rw [hq] at HBI hnx
      have HNX := Lib.hid hnx
      obtain ⟨yn, ys, yA, yc, yargs, yo⟩ := x
      have HBI : Hid (∀ W, Calls Try.prog 20 #[.agg #[.bool yn, .string ys, .slice yA yargs.length yc, .int .i64 yo]] W fun e w' => e = .returned (.bool q) ∧ Below W.heap.size W w') := HBI
      clear hta hx hlx hnx hq hS
      cases S with
      | true =>
        go_wp2
        go_roundw
        case rel => exact ⟨k + 1, by go_num, by omega, by rw [HNX.out]; rfl, HB.out⟩
        case measure => simp [intOf]; omega
      | false =>
        go_wp2_with (go_at_call 20; refine (HBI.out _).mono ?_; rintro e w6 ⟨rfl, hb6⟩; have HB6 := Lib.hid (HB.out.trans (hb6.mono HB.out.size)); clear hb6)
        go_roundw
        case rel => exact ⟨k + 1, by go_num, by omega, by rw [HNX.out]; rfl, HB6.out⟩
        case measure => simp [intOf]; omega
    · have hd : S = B := by
        rw [HB0.out, ← hS, List.take_of_length_le (by rw [List.length_map]; omega)]
      subst hd
      have HW2 := Lib.hid (HON.out.trans (HB.out.mono (by rw [HZ0.out]; omega)))
      clear hta hS HB0
      cases S with
      | false =>
        go_wp2
        go_returns
        exact ⟨rfl, HW2.out⟩
      | true =>
        go_wp2_with fail
        refine (HPF.out _ HB.out).mono ?_
        rintro e w3 ⟨rfl, hb3⟩
        have HW3 := Lib.hid (HW2.out.trans (hb3.mono HW2.out.size))
        obtain ⟨F1, F2, F3⟩ := F
        clear hb3 HPF n0 n1 n2 n3 n4 n5 n6
        cases F3 with
        | true =>
          go_wp2
          go_returns
          exact ⟨rfl, HW3.out⟩
        | false =>
          go_wp2
          go_returns
          exact ⟨rfl, HW3.out⟩
end
end Go.Proofs.Ytmkejlhkipngnaa
namespace Go.Proofs.Ytmkejlhkipngnaa
section
open Go.RowKit Go.Maps

/-- How long all of a rule may be at most. -/
def RuG.Lng (r : RuG) : Prop := r.head.length ≤ maxLen ∧ r.body.length ≤ maxLen ∧ r.nm.size ≤ maxLen ∧ r.ofv.size ≤ maxLen ∧ (∀ s ∈ r.head, s.size ≤ maxLen) ∧ ∀ x ∈ r.body, x.args.length ≤ maxLen ∧ ∀ t ∈ x.args, t.s.size ≤ maxLen
/-- What follows where a rule has few parts. (Of its name and its 'of' nothing: the sum of their lengths may wrap.) -/
def RuG.few (r : RuG) : Prop := r.head.length ≤ 100 ∧ r.body.length ≤ 40 ∧ ∀ x ∈ r.body, x.args.length ≤ 100
theorem RuG.few.sml {r : RuG} (h : r.few) (hl : r.Lng) : r.Sml :=
  ⟨by have := h.1; omega, by have := h.2.1; omega, hl.2.2.2.2.1, hl.2.2.2.1, fun x hx => ⟨by have := h.2.2 x hx; omega, (hl.2.2.2.2.2 x hx).2⟩⟩
/-- What Few's answer tells. (A definition of its own: the walk would split the answer.) -/
def FewG (few : Prop) (w : World) (e : Ending) (w' : World) : Prop := ∃ q : Bool, e = .returned (.bool q) ∧ (q = true → few) ∧ Below w.heap.size w w'

set_option maxRecDepth 100000 in
set_option maxHeartbeats 8000000 in
theorem r_fewG (r : RuG) (w : World) (hr : r.Ok w) (hlg : r.Lng) :
    Calls Try.prog 5 #[.agg r.cells] w fun e w' => FewG r.few w e w' := by
  obtain ⟨k0, nm, hA, hc, head, ag, ofv, lim, bA, bc, body⟩ := r
  obtain ⟨m1, m2, m3, m4, m5, m6⟩ := hlg
  simp only at m1 m2 m3 m4 m5 m6
  have hon := one_new w (.cells #[.int .i64 k0, .string nm, .slice hA head.length hc, .int .i64 ag, .string ofv, .int .i64 lim, .slice bA body.length bc] 25)
  have HB0 := Lib.hid hon
  have hh0 := heap_alloc_new w (.cells #[.int .i64 k0, .string nm, .slice hA head.length hc, .int .i64 ag, .string ofv, .int .i64 lim, .slice bA body.length bc] 25)
  obtain ⟨n0, n1, n2, n3, n4, n5, n6⟩ := box7g_of hh0
  have HBX := Lib.hid hh0
  have HOK := Lib.hid (hr.below hon)
  have M6 := Lib.hid m6
  have hz0 : (w.alloc (.cells #[.int .i64 k0, .string nm, .slice hA head.length hc, .int .i64 ag, .string ofv, .int .i64 lim, .slice bA body.length bc] 25)).heap.size = w.heap.size + 1 := World.size_alloc _ _
  have HF : Hid (head.length ≤ 100 → body.length ≤ 40 → (∀ x ∈ body, x.args.length ≤ 100) → RuG.few (⟨k0, nm, hA, hc, head, ag, ofv, lim, bA, bc, body⟩ : RuG)) := Lib.hid fun h0 h1 h2 => ⟨h0, h1, h2⟩
  unfold maxLen at m1 m2 m3 m4
  clear hr m5 m6 hh0 hon
  generalize RuG.few (⟨k0, nm, hA, hc, head, ag, ofv, lim, bA, bc, body⟩ : RuG) = few at *
  have HP : Hid (∀ (q : Bool) (w' : World), (q = true → few) → Below w.heap.size w w' → FewG few w (Ending.returned (.bool q)) w') := Lib.hid fun q w' h1 h2 => ⟨q, rfl, h1, h2⟩
  have HZ0 := Lib.hid hz0
  clear hz0
  show Calls Try.prog 5 #[.agg #[.int .i64 k0, .string nm, .slice hA head.length hc, .int .i64 ag, .string ofv, .int .i64 lim, .slice bA body.length bc]] w fun e w' => FewG few w e w'
  go_enter Try.func5, Try.ntmps5
  by_cases z1 : (100 : Int) < (head.length : Int)
  · go_wp2
    go_ret
    exact HP.out false _ (fun h => absurd h Bool.false_ne_true) HB0.out
  by_cases z2 : (40 : Int) < (body.length : Int)
  · go_wp2
    go_ret
    exact HP.out false _ (fun h => absurd h Bool.false_ne_true) HB0.out
  by_cases z3 : (400 : Int) < wrap64 ((nm.size : Int) + (ofv.size : Int))
  · go_wp2
    go_ret
    exact HP.out false _ (fun h => absurd h Bool.false_ne_true) HB0.out
  go_wp2
  clear n0 n1 n2 n3 n4 n5 n6
  obtain ⟨W0, hW0⟩ : ∃ W0, W0 = (w.alloc (.cells #[.int .i64 k0, .string nm, .slice hA head.length hc, .int .i64 ag, .string ofv, .int .i64 lim, .slice bA body.length bc] 25)) := ⟨_, rfl⟩
  have HRF : Hid (Below W0.heap.size W0 (w.alloc (.cells #[.int .i64 k0, .string nm, .slice hA head.length hc, .int .i64 ag, .string ofv, .int .i64 lim, .slice bA body.length bc] 25))) := Lib.hid (by rw [hW0]; exact Below.refl _ _)
  rw [← hW0] at HB0 HBX HOK HZ0
  clear hW0
  go_loopw [3] (fun i wr => ∃ k : Nat, i = .int .i64 k ∧ k ≤ head.length ∧ Below W0.heap.size W0 wr) (fun i _ => head.length - (intOf i).toNat)
  case atStart => exact ⟨0, rfl, by omega, HRF.out⟩
  case round =>
    obtain ⟨k, rfl, hk, hb⟩ := hrel
    have HBK := Lib.hid hb
    have HB := Lib.hid (HB0.out.trans (hb.mono (by rw [HZ0.out]; omega)))
    obtain ⟨_, _, n2, _, _, _, n6⟩ := box7g_of ((hb.block w.heap.size (by rw [HZ0.out]; omega)).trans HBX.out)
    by_cases hlt : k < head.length
    · obtain ⟨s, hs2⟩ : ∃ s, head[k]? = some s := ⟨_, List.getElem?_eq_getElem hlt⟩
      obtain ⟨a, e1, d0⟩ := els_S (HOK.out.1.below hb) hs2
      simp only at e1
      subst e1
      clear hs2 hb
      by_cases z4 : (400 : Int) < (s.size : Int)
      · go_wp2
        go_ret
        exact HP.out false _ (fun h => absurd h Bool.false_ne_true) HB.out
      · go_wp2
        go_roundw
        case rel => exact ⟨k + 1, by go_num, by omega, HBK.out⟩
        case measure => simp [intOf]; omega
    · clear hb
      go_wp2
      clear n2 n6
      go_loopw [4] (fun i w2 => ∃ j : Nat, i = .int .i64 j ∧ j ≤ body.length ∧ Hid (∀ x ∈ body.take j, x.args.length ≤ 100) ∧ Below W0.heap.size W0 w2) (fun i _ => body.length - (intOf i).toNat)
      case atStart => exact ⟨0, rfl, by omega, Lib.hid (by simp), HBK.out⟩
      case round =>
        obtain ⟨j, rfl, hj, HJ, hb2⟩ := hrel
        have HBJ := Lib.hid hb2
        have HB2 := Lib.hid (HB0.out.trans (hb2.mono (by rw [HZ0.out]; omega)))
        obtain ⟨_, _, _, _, _, _, n6⟩ := box7g_of ((hb2.block w.heap.size (by rw [HZ0.out]; omega)).trans HBX.out)
        by_cases hlj : j < body.length
        · obtain ⟨x, hx⟩ : ∃ x, body[j]? = some x := ⟨_, List.getElem?_eq_getElem hlj⟩
          have hxmem := List.mem_of_getElem? hx
          have hxl := (M6.out x hxmem).1
          have HT := Lib.hid (HOK.out.2.2 x hxmem)
          obtain ⟨a, e1, d0, d1, d2, d3⟩ := els_L (HOK.out.below hb2).2.1 hx
          simp only at e1 d0 d1 d2 d3
          subst e1
          have HX := Lib.hid hx
          unfold maxLen at hxl
          clear hxmem hb2
          by_cases z5 : (100 : Int) < (x.args.length : Int)
          · clear hx
            go_wp2
            go_ret
            exact HP.out false _ (fun h => absurd h Bool.false_ne_true) HB2.out
          by_cases z6 : (400 : Int) < (x.s.size : Int)
          · clear hx
            go_wp2
            go_ret
            exact HP.out false _ (fun h => absurd h Bool.false_ne_true) HB2.out
          have HJ2 : Hid (∀ y ∈ body.take (j + 1), y.args.length ≤ 100) := Lib.hid fun y hy => by
            rw [List.take_add_one, HX.out, Option.toList_some] at hy
            rcases List.mem_append.1 hy with h | h
            · exact HJ.out y h
            · rw [List.mem_singleton.1 h]; omega
          clear hx
          go_wp2
          clear n6 d0 d1 d2 d3
          go_loopw [5] (fun i w3 => ∃ u : Nat, i = .int .i64 u ∧ u ≤ x.args.length ∧ Below W0.heap.size W0 w3) (fun i _ => x.args.length - (intOf i).toNat)
          case atStart => exact ⟨0, rfl, by omega, HBJ.out⟩
          case round =>
            obtain ⟨u, rfl, hu, hb3⟩ := hrel
            have HBU := Lib.hid hb3
            have HB3 := Lib.hid (HB0.out.trans (hb3.mono (by rw [HZ0.out]; omega)))
            obtain ⟨_, _, _, _, _, _, n6⟩ := box7g_of ((hb3.block w.heap.size (by rw [HZ0.out]; omega)).trans HBX.out)
            obtain ⟨a2, e2, _, _, d2, _⟩ := els_L (HOK.out.below hb3).2.1 HX.out
            simp only at e2 d2
            injection e2 with e2
            subst e2
            by_cases hlu : u < x.args.length
            · obtain ⟨v, hv⟩ : ∃ v, x.args[u]? = some v := ⟨_, List.getElem?_eq_getElem hlu⟩
              obtain ⟨av, hav, e0, _⟩ := els_T (HT.out.below hb3) hv
              rw [hav] at d2
              clear hv hav hb3
              by_cases z7 : (400 : Int) < (v.s.size : Int)
              · go_wp2
                go_ret
                exact HP.out false _ (fun h => absurd h Bool.false_ne_true) HB3.out
              · go_wp2
                go_roundw
                case rel => exact ⟨u + 1, by go_num, by omega, HBU.out⟩
                case measure => simp [intOf]; omega
            · clear hb3
              go_wp2
              go_roundw
              case rel => exact ⟨j + 1, by go_num, by omega, HJ2, HBU.out⟩
              case measure => simp [intOf]; omega
        · have hjj : body.take j = body := List.take_of_length_le (by omega)
          rw [hjj] at HJ
          clear hjj hb2
          go_wp2
          go_ret
          exact HP.out true _ (fun _ => HF.out (by omega) (by omega) HJ.out) HB2.out
end
end Go.Proofs.Ytmkejlhkipngnaa
namespace Go.Proofs.Ytmkejlhkipngnaa
section
open Go.RowKit Go.Maps

theorem ArgsAt.els {w : World} {base : Nat} {v : Value} {l : List TmP} (h : ArgsAt w base v l) : ∃ A c, v = .slice A l.length c ∧ ElsAt TmP.cells 6 w A l := by
  rcases h with ⟨rfl, rfl⟩ | ⟨b, c, cur, rfl, _, _, he⟩
  · exact ⟨none, 0, rfl, fun i x hi => by simp at hi⟩
  · exact ⟨_, c, rfl, he⟩
theorem LisAt.lgs {W : World} {base : Nat} {v : Value} {l : List LiP} (h : LisAt W base v l) : ∃ (A : Option Addr) (c : Nat) (body : List LmG), v = .slice A body.length c ∧ body.map LmG.li = l ∧ LgsAt W A body := by
  obtain ⟨qs, h1, h2, h3⟩ := h
  have hsl : ∃ A c, v = .slice A qs.length c ∧ ElsAt LmQ.cells 4 W A qs := by
    rcases h1.slice el_Lm with ⟨rfl, rfl⟩ | ⟨g, c, rfl, _, _, _, he⟩
    · exact ⟨none, 0, rfl, fun i x hi => by simp at hi⟩
    · exact ⟨_, c, rfl, he⟩
  obtain ⟨A, c, rfl, he⟩ := hsl
  have hex : ∀ i : Fin l.length, ∃ g : LmG, l[i.1]? = some g.li ∧ ElsAt TmP.cells 6 W g.A g.args ∧ ∀ q, qs[i.1]? = some q → g.cells = LmQ.cells q := by
    intro i
    obtain ⟨y, hy⟩ : ∃ y, l[i.1]? = some y := ⟨_, List.getElem?_eq_getElem i.2⟩
    obtain ⟨q, hq⟩ : ∃ q, qs[i.1]? = some q := ⟨_, List.getElem?_eq_getElem (by have := i.2; omega)⟩
    obtain ⟨a, b, d, e⟩ := h3 i.1 q y hq hy
    obtain ⟨B, k, hv, hels⟩ := e.els
    refine ⟨⟨y.n, y.s, B, k, y.args, y.o⟩, hy, hels, fun q2 hq2 => ?_⟩
    rw [hq] at hq2
    injection hq2 with hq2
    subst hq2
    unfold LmQ.cells LmP.cells
    rw [a, b, d, hv]
  refine ⟨A, c, List.ofFn fun i => (hex i).choose, by rw [List.length_ofFn, ← h2], ?_, ?_, ?_⟩
  · refine List.ext_getElem? fun i => ?_
    rw [List.getElem?_map, List.getElem?_ofFn]
    by_cases hi : i < l.length
    · rw [dif_pos hi]
      exact ((hex ⟨i, hi⟩).choose_spec.1).symm
    · rw [dif_neg hi, List.getElem?_eq_none (by omega)]
      rfl
  · intro i x hi
    rw [List.getElem?_ofFn] at hi
    by_cases hl : i < l.length
    · rw [dif_pos hl] at hi
      injection hi with hi
      obtain ⟨q, hq⟩ : ∃ q, qs[i]? = some q := ⟨_, List.getElem?_eq_getElem (by omega)⟩
      obtain ⟨a, ha, hc⟩ := he i q hq
      refine ⟨a, ha, fun j u hj => hc j u ?_⟩
      rw [← hi, (hex ⟨i, hl⟩).choose_spec.2.2 q hq] at hj
      exact hj
    · rw [dif_neg hl] at hi
      cases hi
  · intro x hx
    obtain ⟨i, rfl⟩ := List.mem_ofFn.1 hx
    exact (hex i).choose_spec.2.1
/-- What the parser answers is a rule in memory. -/
theorem RuRes.rule {w w' : World} {e : Ending} {R : RuP × Int × Int} (h : RuRes w w' e R) : ∃ G : RuG, e = .returned (.tuple #[.agg G.cells, .int .i64 R.2.1, .int .i64 R.2.2]) ∧ G.pl = R.1 ∧ G.Ok w' ∧ Below w.heap.size w w' := by
  obtain ⟨hv, bv, rfl, h1, h2, h3⟩ := h
  obtain ⟨A, c, rfl, he⟩ := OwnF.els h1
  obtain ⟨B, d, body, rfl, hm, hl⟩ := h2.lgs
  obtain ⟨⟨k, nm, head, ag, ofv, lim, bd⟩, z, y⟩ := R
  simp only at he hm hl h3
  subst hm
  exact ⟨⟨k, nm, A, c, head, ag, ofv, lim, B, d, body⟩, rfl, rfl, ⟨he, hl⟩, h3⟩
def smlX (x : RuP) : Bool := decide (x.head.length ≤ 200) && (decide (x.body.length ≤ 41) && (x.head.all (fun s => decide (s.size ≤ maxLen)) && (decide (x.ofv.size ≤ maxLen) && x.body.all (fun y => decide (y.args.length ≤ 5000) && y.args.all fun t => decide (t.s.size ≤ maxLen)))))
theorem RuG.sml_of {r : RuG} {x : RuP} (h : r.pl = x) (hx : smlX x = true) : r.Sml := by
  subst h
  unfold smlX at hx
  simp only [Bool.and_eq_true, decide_eq_true_eq, List.all_eq_true] at hx
  obtain ⟨h1, h2, h3, h4, h5⟩ := hx
  rw [List.length_map] at h2
  exact ⟨h1, h2, h3, h4, fun y hy => h5 y.li (List.mem_map.2 ⟨y, hy, rfl⟩)⟩

/-- 'deny d(a) if h(b)' -/
def kT1 : ByteArray := ⟨#[100, 101, 110, 121, 32, 100, 40, 97, 41, 32, 105, 102, 32, 104, 40, 98, 41]⟩
/-- 'deny d(a) if h(a), not k(a), a < 3' -/
def kT2 : ByteArray := ⟨#[100, 101, 110, 121, 32, 100, 40, 97, 41, 32, 105, 102, 32, 104, 40, 97, 41, 44, 32, 110, 111, 116, 32, 107, 40, 97, 41, 44, 32, 97, 32, 60, 32, 51]⟩
set_option maxRecDepth 1000000
theorem k1_why : (ruleR kT1.data.toList).2.2 = 0 := by kernel_rfl
theorem k1_sml : smlX (ruleR kT1.data.toList).1 = true := by kernel_rfl
theorem k1_free : freeX (ruleR kT1.data.toList).1 = (⟨#[97]⟩, -1, true) := by kernel_rfl
theorem k1_check : checkX (ruleR kT1.data.toList).1 = (-1, 12) := by kernel_rfl
theorem k2_why : (ruleR kT2.data.toList).2.2 = 0 := by kernel_rfl
theorem k2_sml : smlX (ruleR kT2.data.toList).1 = true := by kernel_rfl
theorem k2_check : checkX (ruleR kT2.data.toList).1 = (0, 0) := by kernel_rfl
end
end Go.Proofs.Ytmkejlhkipngnaa
namespace Go.Proofs.Ytmkejlhkipngnaa
section
open Go.RowKit Go.Maps

theorem k1_call (w : World) : Calls Try.prog 14 #[.string ⟨#[100, 101, 110, 121, 32, 100, 40, 97, 41, 32, 105, 102, 32, 104, 40, 98, 41]⟩] w fun e w' => ∃ (k1 : Int) (nm1 : ByteArray) (hA1 : Option Addr) (head1 : List ByteArray) (hc1 : Nat) (ag1 : Int) (ofv1 : ByteArray) (lim1 : Int) (bA1 : Option Addr) (body1 : List LmG) (bc1 : Nat) (z1 : Int),
    e = .returned (.tuple #[.agg #[.int .i64 k1, .string nm1, .slice hA1 head1.length hc1, .int .i64 ag1, .string ofv1, .int .i64 lim1, .slice bA1 body1.length bc1], .int .i64 z1, .int .i64 0]) ∧ Below w.heap.size w w' ∧ Hid (∀ W, Below w'.heap.size w' W → Calls Try.prog 7 #[.agg #[.int .i64 k1, .string nm1, .slice hA1 head1.length hc1, .int .i64 ag1, .string ofv1, .int .i64 lim1, .slice bA1 body1.length bc1]] W fun e W' => e = .returned (.tuple #[.string ⟨#[97]⟩, .int .i64 (-1), .bool true]) ∧ Below W.heap.size W W') ∧ Hid (∀ W, Below w'.heap.size w' W → Calls Try.prog 9 #[.agg #[.int .i64 k1, .string nm1, .slice hA1 head1.length hc1, .int .i64 ag1, .string ofv1, .int .i64 lim1, .slice bA1 body1.length bc1]] W fun e W' => e = .returned (.tuple #[.int .i64 (-1), .int .i64 12]) ∧ Below W.heap.size W W') := by
  refine (rf_rule kT1 w).mono ?_
  intro e w' h
  obtain ⟨⟨k, nm, hA, hc, head, ag, ofv, lim, bA, bc, body⟩, rfl, hp, hok, hb⟩ := h.rule
  have hs := RuG.sml_of hp k1_sml
  rw [k1_why]
  refine ⟨k, nm, hA, head, hc, ag, ofv, lim, bA, body, bc, _, rfl, hb, Lib.hid fun W hW => ?_, Lib.hid fun W hW => ?_⟩
  · have h1 := p_Free _ W (hok.below hW) hs
    rw [hp, k1_free] at h1
    exact h1
  · have h1 := p_Check _ W (hok.below hW) hs
    rw [hp, k1_check] at h1
    exact h1
theorem k2_call (w : World) : Calls Try.prog 14 #[.string ⟨#[100, 101, 110, 121, 32, 100, 40, 97, 41, 32, 105, 102, 32, 104, 40, 97, 41, 44, 32, 110, 111, 116, 32, 107, 40, 97, 41, 44, 32, 97, 32, 60, 32, 51]⟩] w fun e w' => ∃ (k2 : Int) (nm2 : ByteArray) (hA2 : Option Addr) (head2 : List ByteArray) (hc2 : Nat) (ag2 : Int) (ofv2 : ByteArray) (lim2 : Int) (bA2 : Option Addr) (body2 : List LmG) (bc2 : Nat) (z2 : Int),
    e = .returned (.tuple #[.agg #[.int .i64 k2, .string nm2, .slice hA2 head2.length hc2, .int .i64 ag2, .string ofv2, .int .i64 lim2, .slice bA2 body2.length bc2], .int .i64 z2, .int .i64 0]) ∧ Below w.heap.size w w' ∧ Hid (∀ W, Below w'.heap.size w' W → Calls Try.prog 9 #[.agg #[.int .i64 k2, .string nm2, .slice hA2 head2.length hc2, .int .i64 ag2, .string ofv2, .int .i64 lim2, .slice bA2 body2.length bc2]] W fun e W' => e = .returned (.tuple #[.int .i64 (0), .int .i64 0]) ∧ Below W.heap.size W W') := by
  refine (rf_rule kT2 w).mono ?_
  intro e w' h
  obtain ⟨⟨k, nm, hA, hc, head, ag, ofv, lim, bA, bc, body⟩, rfl, hp, hok, hb⟩ := h.rule
  have hs := RuG.sml_of hp k2_sml
  rw [k2_why]
  refine ⟨k, nm, hA, head, hc, ag, ofv, lim, bA, body, bc, _, rfl, hb, Lib.hid fun W hW => ?_⟩
  have h1 := p_Check _ W (hok.below hW) hs
  rw [hp, k2_check] at h1
  exact h1

set_option maxRecDepth 100000 in
set_option maxHeartbeats 4000000 in
theorem lw_known15 (w : World) : Calls Try.prog 6 #[] w fun e w' => e = .returned (.bool true) ∧ Below w.heap.size w w' := by
  go_enter Try.func6, Try.ntmps6
  go_wp2_with fail
  refine (k1_call _).mono ?_
  rintro e w1 ⟨k1, nm1, hA1, head1, hc1, ag1, ofv1, lim1, bA1, body1, bc1, z1, rfl, hb1, HF1, HC1⟩
  have hx1 := heap_alloc_new w1 (.cells #[.int .i64 k1, .string nm1, .slice hA1 head1.length hc1, .int .i64 ag1, .string ofv1, .int .i64 lim1, .slice bA1 body1.length bc1] 25)
  obtain ⟨n0, n1, n2, n3, n4, n5, n6⟩ := box7g_of hx1
  have HX1 := Lib.hid hx1
  have HB1 := Lib.hid hb1
  clear hx1 hb1
  go_wp2_with fail
  refine (HF1.out _ (one_new w1 _)).mono ?_
  rintro e w2 ⟨rfl, hb2⟩
  have hx2 := (hb2.block w1.heap.size (by simp)).trans HX1.out
  have ho2 : Below w1.heap.size w1 w2 := (one_new w1 _).trans (hb2.mono (by simp))
  clear n0 n1 n2 n3 n4 n5 n6
  obtain ⟨n0, n1, n2, n3, n4, n5, n6⟩ := box7g_of hx2
  have HO2 := Lib.hid ho2
  clear hb2 hx2 ho2 HF1 HX1
  go_wp2_with fail
  refine (HC1.out _ HO2.out).mono ?_
  rintro e w3 ⟨rfl, hb3⟩
  have HB3 := Lib.hid (HB1.out.trans ((HO2.out.trans (hb3.mono HO2.out.size)).mono HB1.out.size))
  clear hb3 HC1 HO2 HB1 n0 n1 n2 n3 n4 n5 n6
  go_wp2_with fail
  refine (k2_call _).mono ?_
  rintro e w4 ⟨k2, nm2, hA2, head2, hc2, ag2, ofv2, lim2, bA2, body2, bc2, z2, rfl, hb4, HC2⟩
  have hx1 := heap_alloc_new w4 (.cells #[.int .i64 k2, .string nm2, .slice hA2 head2.length hc2, .int .i64 ag2, .string ofv2, .int .i64 lim2, .slice bA2 body2.length bc2] 25)
  obtain ⟨n0, n1, n2, n3, n4, n5, n6⟩ := box7g_of hx1
  have HB4 := Lib.hid (HB3.out.trans (hb4.mono HB3.out.size))
  clear hx1 hb4 HB3
  go_wp2_with fail
  refine (HC2.out _ (one_new w4 _)).mono ?_
  rintro e w5 ⟨rfl, hb5⟩
  have HB5 := Lib.hid (HB4.out.trans (((one_new w4 (.cells #[.int .i64 k2, .string nm2, .slice hA2 head2.length hc2, .int .i64 ag2, .string ofv2, .int .i64 lim2, .slice bA2 body2.length bc2] 25)).trans (hb5.mono (by simp))).mono HB4.out.size))
  clear hb5 HC2 n0 n1 n2 n3 n4 n5 n6
  go_wp2
  go_ret
  exact ⟨rfl, HB5.out⟩
end
end Go.Proofs.Ytmkejlhkipngnaa
