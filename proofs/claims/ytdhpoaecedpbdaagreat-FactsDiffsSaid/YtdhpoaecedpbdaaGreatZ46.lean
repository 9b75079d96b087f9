/-
  add and net of package facts: the rows that are in one of two lists alone, in order, with how often.
  At lists of at most 1000 rows that are not empty.
-/
import Derived.Test.YtdhpoaecedpbdaaGreatZ45
import Derived.Test.YtdhpoaecedpbdaaGreatZ9
namespace Go.Proofs.YtdhpoaecedpbdaaGreat
open Go.RowKit

/-- Rows are added to a bag, each so many times. -/
def addsL (many : Int) (xs : List (List V)) (E : List En) : List En := xs.foldl (fun E x => (addL x many E).1) E
theorem addsL_snoc (many : Int) (xs : List (List V)) (x : List V) (E : List En) : addsL many (xs ++ [x]) E = (addL x many (addsL many xs E)).1 := by
  unfold addsL
  rw [List.foldl_append]
  rfl
theorem addL_len (x : List V) (k : Int) (l : List En) : (addL x k l).1.length ≤ l.length + 1 := by
  unfold addL
  split
  · exact Nat.le_succ _
  · split
    · exact Nat.le_succ _
    · exact setL_len1 x _ l
theorem addsL_len (many : Int) : ∀ (xs : List (List V)) (E : List En), (addsL many xs E).length ≤ E.length + xs.length
  | [], E => Nat.le_refl _
  | x :: xs, E => by
    have h1 := addsL_len many xs (addL x many E).1
    have h2 := addL_len x many E
    show (addsL many xs (addL x many E).1).length ≤ E.length + (xs.length + 1)
    omega
theorem addsL_good (many : Int) : ∀ (xs : List (List V)) (E : List En), Good E → Good (addsL many xs E)
  | [], _, h => h
  | x :: xs, E, h => addsL_good many xs _ (addL_good x many E h)
def netL (was now : List (List V)) : List En := addsL 1 now (addsL (-1) was [])
theorem netL_good (was now : List (List V)) : Good (netL was now) := addsL_good _ _ _ (addsL_good _ _ _ Good.nil)
theorem netL_len (was now : List (List V)) : (netL was now).length ≤ was.length + now.length := by
  have h1 := addsL_len 1 now (addsL (-1) was [])
  have h2 := addsL_len (-1) was []
  have h3 : ([] : List En).length = 0 := rfl
  unfold netL
  omega
theorem IsRw.row {w : World} {Q : Nat → Prop} {v : Value} {x : List V} (h : IsRw w Q v x) (hl : x.length ≤ 1000000) (hne : x ≠ []) : IsRow w Q v x := by
  obtain ⟨_, A, c, rfl, hr⟩ := h
  refine ⟨hl, A, c, rfl, fun hA => ?_, hr⟩
  cases x with
  | nil => exact absurd rfl hne
  | cons y ys =>
    obtain ⟨a, ha, _⟩ := hr 0 y rfl
    rw [hA] at ha
    cases ha
/-- Rows that are short, and not empty. -/
def Ne (xs : List (List V)) : Prop := ∀ x ∈ xs, x.length ≤ 1000000 ∧ x ≠ []

set_option maxRecDepth 100000 in
set_option maxHeartbeats 4000000 in
theorem f_add (R Q : Nat → Prop) (g : Nat) (many : Int) (A : Option Addr) (n c : Nat) (us : List Value) (xs : List (List V)) (E : List En) (w : World) (hn : us.length = n) (hl : n ≤ 1000) (hm : -1 ≤ many ∧ many ≤ 1) (hA : CellsQ w R A us) (hx : RwsQ w R us xs) (hne : Ne xs) (hR : ¬ R g) (hQ : ∀ k, w.heap.size ≤ k → Q k) (hg : ¬ Q g) (hb : BagL w Q g E) (hE : E.length ≤ 10000) :
    Calls Tryz.prog 96 #[.pointer (some ⟨g, 0, none⟩), .int .i64 many, .slice A n c] w fun e w' => e = .returned (.tuple #[]) ∧ BagL w' Q g (addsL many xs E) ∧ Only g w w' := by
  have HA := Lib.hid hA
  have HX := Lib.hid hx
  have HN := Lib.hid (show n = xs.length by rw [← hn]; exact hx.len)
  have HNE := Lib.hid hne
  have HB := Lib.hid hb
  have HQ := Lib.hid hQ
  have hgl := hb.lt
  clear hA hx hn hne hb hQ
  go_enter Tryz.func96, Tryz.ntmps96
  go_wp2
  go_loopw [10] (fun i wr => ∃ (k : Nat), k ≤ n ∧ i = .int .i64 k ∧ BagL wr Q g (addsL many (xs.take k) E) ∧ Only g w wr) (fun i _ => n - (intOf i).toNat)
  case atStart => exact ⟨0, Nat.zero_le _, rfl, by simpa [addsL] using HB.out, Only.refl _ _⟩
  case round =>
    obtain ⟨k, hk, rfl, hbag, ho⟩ := hrel
    have HO := Lib.hid ho
    have hsz := ho.1.size
    by_cases hlt : k < n
    · obtain ⟨x, hx⟩ : ∃ x, xs[k]? = some x := ⟨_, List.getElem?_eq_getElem (by rw [← HN.out]; exact hlt)⟩
      obtain ⟨uv, huv, hur⟩ := HX.out.get k x hx
      obtain ⟨a, rfl, hab, hac⟩ := HA.out k uv huv
      have hal := World.block_lt_of_cell? w _ hac
      have e1 : wr.cell? (a.add k) = some uv := (World.cell?_of_block (w := w) (ho.2 _ hal (fun e => hR (e ▸ hab)))).trans hac
      obtain ⟨hxl, hxn⟩ := HNE.out x (List.mem_of_getElem? hx)
      have hrow := (hur.keep (ho.keepQ hR)).row hxl hxn
      have htk : addsL many (xs.take (k + 1)) E = (addL x many (addsL many (xs.take k) E)).1 := by
        rw [List.take_add_one, hx]
        exact addsL_snoc _ _ _ _
      have HTK := Lib.hid htk
      have hln := addsL_len many (xs.take k) E
      have hln2 : (xs.take k).length ≤ k := List.length_take_le _ _
      have HAD := Lib.hid (b_add R uv x many Q g _ wr (by omega) (fun j hj => HQ.out j (by omega)) hg hrow hbag (by omega))
      obtain ⟨_, A9, c9, rfl, _, _⟩ := hrow
      clear hx huv hur hac htk hbag
      go_wp2_with fail
      refine HAD.out.mono ?_
      rintro e w2 ⟨rfl, hb2, ho2⟩
      have HB2 := Lib.hid hb2
      have HO2 := Lib.hid ho2
      clear hb2 ho2
      go_wp2
      go_roundw
      case rel => exact ⟨k + 1, by omega, by go_num, by rw [HTK.out]; exact HB2.out, HO.out.trans HO2.out⟩
      case measure => simp [intOf]; omega
    · obtain rfl : k = n := by omega
      rw [List.take_of_length_le (by have := HN.out; omega)] at hbag
      have HBG := Lib.hid hbag
      clear hbag ho
      go_wp2
      go_end0
      exact ⟨rfl, HBG.out, HO.out⟩

/-- What a call gives that answers a list of rows. -/
def RowsPost (w : World) (xs : List (List V)) (e : Ending) (w' : World) : Prop := ∃ v us, e = .returned v ∧ OwnG w' w.heap.size v us ∧ RwsQ w' (fun _ => True) us xs ∧ Below w.heap.size w w'

set_option maxRecDepth 100000 in
set_option maxHeartbeats 4000000 in
theorem f_net (A B : Option Addr) (n m c d : Nat) (us vs : List Value) (xs ys : List (List V)) (w : World) (hn : us.length = n) (hm : vs.length = m) (hnl : n ≤ 1000) (hml : m ≤ 1000) (hA : CellsQ w (fun k => k < w.heap.size) A us) (hB : CellsQ w (fun k => k < w.heap.size) B vs) (hx : RwsQ w (fun _ => True) us xs) (hy : RwsQ w (fun _ => True) vs ys) (hnx : Ne xs) (hny : Ne ys) :
    Calls Tryz.prog 53 #[.slice A n c, .slice B m d] w fun e w' => ∃ L cl, e = .returned (.slice L (netL xs ys).length cl) ∧ EntsQ w' (fun k => w.heap.size ≤ k) L (netL xs ys) ∧ Below w.heap.size w w' := by
  have HA := Lib.hid hA
  have HB := Lib.hid hB
  have HX := Lib.hid (hx.imp (Q' := fun k => k < w.heap.size) (fun k hk _ => hk))
  have HY := Lib.hid (hy.imp (Q' := fun k => k < w.heap.size) (fun k hk _ => hk))
  have hxl : xs.length = n := by rw [← hn]; exact hx.len.symm
  have hyl : ys.length = m := by rw [← hm]; exact hy.len.symm
  have HNX := Lib.hid hnx
  have HNY := Lib.hid hny
  have HN := Lib.hid hn
  have HM := Lib.hid hm
  have hl1 := addsL_len (-1) xs []
  have hl2 := netL_len xs ys
  rw [List.length_nil, hxl] at hl1
  rw [hxl, hyl] at hl2
  have HL1 := Lib.hid hl1
  have HL2 := Lib.hid hl2
  clear hA hB hx hy hnx hny hn hm hxl hyl hl1 hl2
  go_enter Tryz.func53, Tryz.ntmps53
  go_wp2_with fail
  refine (b_new _).mono ?_
  rintro e w1 ⟨rfl, hw1⟩
  have hb1 : Below w.heap.size w w1 := by rw [hw1]; exact one_new w _
  have hbag1 : BagL w1 (fun k => w.heap.size < k) w.heap.size [] := by rw [hw1]; exact bag_new _ w
  have hz1 : w1.heap.size = w.heap.size + 1 := by rw [hw1]; simp
  have HW1 := Lib.hid hw1
  have HBW := Lib.hid hb1
  have HA1 := Lib.hid (HA.out.keep (Below.keepQ hb1 _))
  have HB1 := Lib.hid (HB.out.keep (Below.keepQ hb1 _))
  have HX1 := Lib.hid (HX.out.keep (Below.keepQ hb1 _))
  have HY1 := Lib.hid (HY.out.keep (Below.keepQ hb1 _))
  have HADD := Lib.hid (f_add (fun k => k < w.heap.size) (fun k => w.heap.size < k) w.heap.size (-1) A n c us xs [] w1 HN.out hnl (by omega) HA1.out HX1.out HNX.out (by omega) (fun k hk => by omega) (by omega) hbag1 (by simp))
  have HZ1 := Lib.hid hz1
  clear hb1 hbag1 hw1 hz1
  go_wp2_with fail
  refine HADD.out.mono ?_
  rintro e w2 ⟨rfl, hbag2, ho2⟩
  have hz2 := ho2.1.size
  rw [HZ1.out] at hz2
  have HBW2 := Lib.hid (Only.below HBW.out ho2 (Nat.le_refl _))
  have HADD2 := Lib.hid (f_add (fun k => k < w.heap.size) (fun k => w.heap.size < k) w.heap.size 1 B m d vs ys _ w2 HM.out hml (by omega) (HB1.out.keep (ho2.keepQ (by omega))) (HY1.out.keep (ho2.keepQ (by omega))) HNY.out (by omega) (fun k hk => by omega) (by omega) hbag2 (by have := HL1.out; omega))
  clear hbag2 ho2
  go_wp2_with fail
  refine HADD2.out.mono ?_
  rintro e w3 ⟨rfl, hbag3, ho3⟩
  have hz3 := ho3.1.size
  have HBW3 := Lib.hid (Only.below HBW2.out ho3 (Nat.le_refl _))
  have HRW := Lib.hid (b_rows (fun k => w.heap.size < k) (some ⟨w.heap.size, 0, none⟩) _ w3 (fun k hk => by omega) (.inr ⟨_, rfl, hbag3⟩) (by have := HL2.out; show (netL xs ys).length ≤ 700000; omega))
  clear hbag3 ho3
  go_wp2_with fail
  refine HRW.out.mono ?_
  rintro e w4 ⟨L, cl, rfl, _, hen, hb4⟩
  have HEN := Lib.hid (hen.imp (Q' := fun k => w.heap.size ≤ k) (fun k _ h => Nat.le_of_lt h))
  have HBW4 := Lib.hid (HBW3.out.trans (hb4.mono HBW3.out.size))
  clear hen hb4
  go_wp2
  go_ret
  exact ⟨L, cl, rfl, HEN.out, HBW4.out⟩
end Go.Proofs.YtdhpoaecedpbdaaGreat
