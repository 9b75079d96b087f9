/-
  Of, Pick, Join and Pairs of package row, beside the document's own: the cells of the rows that they make, whether the places can be, and whether the cells go together.
  No condition but that rows and lists are no longer than three million, and texts no longer than they can be.
-/
import Derived.Test.YtpliofhphijdkaaOwn
import Derived.Test.YtpliofhphijdkaaRcmp
namespace Go.Proofs.Ytpliofhphijdkaa
open Go.RowKit

/-- A call that answers a row of its own, which holds xs, and changes nothing that was there. -/
def OwnsNew (w : World) (xs : List V) (e : Ending) (w' : World) : Prop := ∃ v, e = .returned v ∧ Own w' w.heap.size v xs ∧ Below w.heap.size w w'

set_option maxHeartbeats 400000 in
theorem clone_V (A : Option Addr) (xs : List V) (n c : Nat) (w : World) (hn : n = xs.length) (hc : A = none → c = 0) (hl : xs.length ≤ 1000000) (hx : RowAt w w.heap.size A xs) :
    Calls Try.prog 44 #[.slice A n c] w (OwnsNew w xs) := by
  have HX := Lib.hid hx
  have HN := Lib.hid hn
  clear hx hn
  cases A with
  | none =>
    have hxs : xs = [] := by
      cases xs with
      | nil => rfl
      | cons y ys =>
        obtain ⟨a, ha, _⟩ := HX.out 0 y rfl
        cases ha
    subst hxs
    obtain rfl : n = 0 := HN.out
    obtain rfl : c = 0 := hc rfl
    have q := fun w : World => Lib.run_eql_slice_nil (P := Try.prog) w 44 52 none 0 0 0 0 Try.underlying44
    go_enter Try.func44, Try.ntmps44
    go_wp2
    go_ret
    exact ⟨_, rfl, Own.nil _ _, Below.refl _ _⟩
  | some a =>
    clear hc
    have q := fun w : World => Lib.run_eql_slice_nil (P := Try.prog) w 44 52 (some a) n c 0 0 Try.underlying44
    have hown : Own (w.alloc (.cells #[] 52)) w.heap.size (.slice (some ⟨w.heap.size, 0, none⟩) 0 0) [] := World.ownsRow_made w #[] 0 (Nat.le_refl _) (by unfold maxLen; omega) rfl
    have HO := Lib.hid hown
    clear hown
    go_enter Try.func44, Try.ntmps44
    go_wp2_with (at_builtin; go_must (refine wp_append_V _ rfl (.tmp 5) (.tmp 6) rfl w.heap.size _ [] xs rfl HO.out w.heap.size (some a) n c rfl HN.out (HX.out.below (one_new _ _)) (by simp; omega) (by simp) ?_; intro v' w1 hown1 hb1 _))
    go_ret
    exact ⟨v', rfl, by simpa using hown1, (one_new _ _).trans hb1⟩

set_option maxHeartbeats 400000 in
theorem row_of (A : Option Addr) (xs : List V) (n c : Nat) (w : World) (hn : n = xs.length) (hc : A = none → c = 0) (hl : xs.length ≤ 1000000) (hx : RowAt w w.heap.size A xs) :
    Calls Try.prog 27 #[.slice A n c] w (OwnsNew w xs) := by
  have HF := Lib.hid (clone_V A xs n c w hn hc hl hx)
  clear hx hn hc hl
  go_enter Try.func27, Try.ntmps27
  go_wp2_with fail
  refine HF.out.mono ?_
  rintro e w' ⟨v, rfl, ho, hb⟩
  go_wp2
  go_ret
  exact ⟨v, rfl, ho, hb⟩

/-- Is z a place of a row of n cells? -/
def inR (n : Nat) (z : Int) : Bool := decide (0 ≤ z) && decide (z < (n : Int))

set_option maxHeartbeats 400000 in
theorem within (A : Option Addr) (n c : Nat) (z : Int) (w : World) : Calls Try.prog 37 #[.slice A n c, .int .i64 z] w fun e w' => e = .returned (.bool (inR n z)) ∧ w = w' := by
  by_cases h0 : 0 ≤ z
  · by_cases h1 : z < (n : Int)
    · go_enter Try.func37, Try.ntmps37
      go_wp2
      go_ret
      exact ⟨ret_bool (by simp [inR, h0, h1]), rfl⟩
    · go_enter Try.func37, Try.ntmps37
      go_wp2
      go_ret
      exact ⟨ret_bool (by simp [inR]; omega), rfl⟩
  · go_enter Try.func37, Try.ntmps37
    go_wp2
    go_ret
    exact ⟨ret_bool (by simp [inR]; omega), rfl⟩

/-- The list of numbers zs lies at A, below block B. -/
def IntsAt (w : World) (B : Nat) (A : Option Addr) (zs : List Int) : Prop := ∀ (i : Nat) (z : Int), zs[i]? = some z → ∃ a : Addr, A = some a ∧ (a.add i).block < B ∧ w.cell? (a.add i) = some (.int .i64 z)
theorem IntsAt.below {w w' : World} {B : Nat} {A : Option Addr} {zs : List Int} (h : IntsAt w B A zs) (hb : Below B w w') : IntsAt w' B A zs := by
  intro i z hi
  obtain ⟨a, ha, hlt, hc⟩ := h i z hi
  exact ⟨a, ha, hlt, (hb.cell hlt).trans hc⟩

/-- The value at a place. -/
def getV (xs : List V) (z : Int) : V := (xs[z.toNat]?).getD ⟨0, false, 0, ⟨#[]⟩⟩
theorem getV_at (xs : List V) (z : Int) (h : inR xs.length z = true) : xs[z.toNat]? = some (getV xs z) := by
  unfold inR at h
  rw [Bool.and_eq_true, decide_eq_true_eq, decide_eq_true_eq] at h
  have hz : z.toNat < xs.length := by omega
  unfold getV
  rw [List.getElem?_eq_getElem hz]
  rfl
/-- What Pick answers: the cells at the places, and the error's number. -/
def pickR (xs : List V) (zs : List Int) : List V × Int := if zs.all (inR xs.length) = true then (zs.map (getV xs), 0) else ([], 2)
/-- A call that answers a row of its own and an error's number. -/
def Picked (w : World) (r : List V × Int) (e : Ending) (w' : World) : Prop := ∃ v, e = .returned (.tuple #[v, .int .i64 r.2]) ∧ Own w' w.heap.size v r.1 ∧ Below w.heap.size w w'

theorem all_take_succ (p : Int → Bool) (zs : List Int) (k : Nat) (z : Int) (h : zs[k]? = some z) : (zs.take (k + 1)).all p = ((zs.take k).all p && p z) := by
  rw [List.take_add_one, h]
  simp
theorem map_take_succ (f : Int → V) (zs : List Int) (k : Nat) (z : Int) (h : zs[k]? = some z) : (zs.take (k + 1)).map f = (zs.take k).map f ++ [f z] := by
  rw [List.take_add_one, h]
  simp
theorem pickR_no (xs : List V) (zs : List Int) (k : Nat) (z : Int) (h : zs[k]? = some z) (hz : inR xs.length z = false) : pickR xs zs = ([], 2) := by
  unfold pickR
  rw [if_neg]
  intro ha
  have := List.all_eq_true.1 ha z (List.mem_of_getElem? h)
  rw [hz] at this
  cases this

set_option maxHeartbeats 1000000 in
theorem row_pick (A C : Option Addr) (xs : List V) (zs : List Int) (n m c c' : Nat) (w : World) (hn : n = xs.length) (hm : m = zs.length) (hl : m ≤ 1100000) (hx : RowAt w w.heap.size A xs) (hz : IntsAt w w.heap.size C zs) :
    Calls Try.prog 20 #[.slice A n c, .slice C m c'] w (Picked w (pickR xs zs)) := by
  have HX := Lib.hid hx
  have HC := Lib.hid hz
  have HN := Lib.hid hn
  have HM := Lib.hid hm
  clear hx hz hn hm
  go_enter Try.func20, Try.ntmps20
  go_wp2_with (at_make; go_must (refine wp_make_V _ rfl _ _ rfl w.heap.size m rfl rfl (by omega) (Nat.le_refl _) ?_; intro v0 w0 hown0 hb0))
  have HO := Lib.hid hown0
  have HB := Lib.hid hb0
  clear hown0 hb0
  go_loopw [6, 14] (fun v i wr => ∃ k : Nat, k ≤ m ∧ i = .int .i64 k ∧ (zs.take k).all (inR xs.length) = true ∧ Own wr w.heap.size v ((zs.take k).map (getV xs)) ∧ Below w.heap.size w wr) (fun _ i _ => m - (intOf i).toNat)
  case atStart => exact ⟨0, Nat.zero_le _, rfl, rfl, HO.out, HB.out⟩
  case round =>
    obtain ⟨k, hk, rfl, hall, hown, hb⟩ := hrel
    have HA := Lib.hid hall
    have HO := Lib.hid hown
    have HB := Lib.hid hb
    have hsz : w.heap.size ≤ wr.heap.size := hb.size
    clear hall hown hb
    by_cases h1 : k < m
    · obtain ⟨z, hz⟩ : ∃ z, zs[k]? = some z := ⟨_, List.getElem?_eq_getElem (by rw [← HM.out]; exact h1)⟩
      obtain ⟨q, rfl, _, hq⟩ := (HC.out.below HB.out) k z hz
      have HZ := Lib.hid hz
      clear hz
      rcases Bool.eq_false_or_eq_true (inR n z) with hin | hin
      · have HI := Lib.hid hin
        clear hin
        have hin2 := HI.out
        unfold inR at hin2
        rw [Bool.and_eq_true, decide_eq_true_eq, decide_eq_true_eq] at hin2
        obtain ⟨z0, z1⟩ := hin2
        obtain ⟨a, rfl, ha, a0, a1, a2, a3⟩ := (HX.out.below HB.out) z.toNat (getV xs z) (getV_at xs z (by rw [← HN.out]; exact HI.out))
        have ha' : (a.add (z.toNat * 4)).block < wr.heap.size := by omega
        go_wp2_with (first
          | (go_at_call 37; refine (within _ _ _ _ _).mono ?_; rintro e w' ⟨rfl, rfl⟩; rw [HI.out])
          | (at_builtin; go_must (refine wp_append_V _ rfl (.tmp 22) (.tmp 27) rfl w.heap.size _ ((zs.take k).map (getV xs)) [getV xs z] rfl (HO.out.alloc _) _ _ _ _ rfl rfl (row_lit1 _ _) (by simp; omega) (by simp; omega) ?_; intro v' w1 hown1 hb1 _)))
        have HO1 := Lib.hid hown1
        have HB1 := Lib.hid hb1
        clear hown1 hb1
        go_wp2
        go_roundw
        case rel =>
          refine ⟨k + 1, by omega, by go_num, ?_, ?_, (HB.out.trans (one_new_far _ _ hsz)).trans HB1.out⟩
          · rw [all_take_succ _ _ _ _ HZ.out, HA.out, ← HN.out, HI.out]
            rfl
          · rw [map_take_succ _ _ _ _ HZ.out]
            exact HO1.out
        case measure => simp [intOf]; omega
      · have HI := Lib.hid hin
        clear hin
        go_wp2_with (go_at_call 37; refine (within _ _ _ _ _).mono ?_; rintro e w' ⟨rfl, rfl⟩; rw [HI.out])
        go_ret2
        rw [pickR_no xs zs k z HZ.out (by rw [← HN.out]; exact HI.out)]
        exact ⟨_, rfl, Own.nil _ _, HB.out⟩
    · obtain rfl : k = m := by omega
      have hall : zs.all (inR xs.length) = true := by
        have h := HA.out
        rwa [List.take_of_length_le (by rw [← HM.out]; omega)] at h
      have hp : pickR xs zs = (zs.map (getV xs), 0) := by unfold pickR; rw [if_pos hall]
      have HP := Lib.hid hp
      clear hall hp
      go_wp2
      go_ret2
      rw [HP.out]
      refine ⟨_, rfl, ?_, HB.out⟩
      have h := HO.out
      rwa [List.take_of_length_le (by rw [← HM.out]; omega)] at h
end Go.Proofs.Ytpliofhphijdkaa
