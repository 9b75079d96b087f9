/-
  Of, Pick, Join and Pairs of package row, beside the document's own: the cells of the rows that they make, whether the places can be, and whether the cells go together.
  No condition but that rows and lists are no longer than three million, and texts no longer than they can be.
-/
import Derived.Test.YtoeggpoeongnhaaOwn
import Derived.Test.YtoeggpoeongnhaaRcmp
namespace Go.Proofs.Ytoeggpoeongnhaa
open Go.RowKit

/-- A call that answers a row of its own, which holds xs, and changes nothing that was there. -/
def OwnsNew (w : World) (xs : List V) (e : Ending) (w' : World) : Prop := ∃ v, e = .returned v ∧ Own w' w.heap.size v xs ∧ Below w.heap.size w w'

set_option maxHeartbeats 400000 in
theorem clone_V (A : Option Addr) (xs : List V) (n c : Nat) (w : World) (hn : n = xs.length) (hc : A = none → c = 0) (hl : xs.length ≤ 1000000) (hx : RowAt w w.heap.size A xs) :
    Calls Try.prog 94 #[.slice A n c] w (OwnsNew w xs) := by
  have HX := Lib.hid hx
  have HN := Lib.hid hn
  clear hx hn
  cases A with
  | none =>
    have hxs : xs = [] := by
      cases xs with
      | nil => rfl
      | cons y ys =>
        obtain ⟨a, ha, _⟩ := HX.out 0 y rfl
        cases ha
    subst hxs
    obtain rfl : n = 0 := HN.out
    obtain rfl : c = 0 := hc rfl
    have q := fun w : World => Lib.run_eql_slice_nil (P := Try.prog) w 28 95 none 0 0 0 0 Try.underlying28
    go_enter Try.func94, Try.ntmps94
    go_wp2
    go_ret
    exact ⟨_, rfl, Own.nil _ _, Below.refl _ _⟩
  | some a =>
    clear hc
    have q := fun w : World => Lib.run_eql_slice_nil (P := Try.prog) w 28 95 (some a) n c 0 0 Try.underlying28
    have hown : Own (w.alloc (.cells #[] 95)) w.heap.size (.slice (some ⟨w.heap.size, 0, none⟩) 0 0) [] := World.ownsRow_made w #[] 0 (Nat.le_refl _) (by unfold maxLen; omega) rfl
    have HO := Lib.hid hown
    clear hown
    go_enter Try.func94, Try.ntmps94
    go_wp2_with (at_builtin; go_must (refine wp_append_V _ rfl (.tmp 5) (.tmp 6) rfl w.heap.size _ [] xs rfl HO.out w.heap.size (some a) n c rfl HN.out (HX.out.below (one_new _ _)) (by simp; omega) (by simp) ?_; intro v' w1 hown1 hb1 _))
    go_ret
    exact ⟨v', rfl, by simpa using hown1, (one_new _ _).trans hb1⟩

/-- Is z a place of a row of n cells? -/
def inR (n : Nat) (z : Int) : Bool := decide (0 ≤ z) && decide (z < (n : Int))

/-- The list of numbers zs lies at A, below block B. -/
def IntsAt (w : World) (B : Nat) (A : Option Addr) (zs : List Int) : Prop := ∀ (i : Nat) (z : Int), zs[i]? = some z → ∃ a : Addr, A = some a ∧ (a.add i).block < B ∧ w.cell? (a.add i) = some (.int .i64 z)
theorem IntsAt.below {w w' : World} {B : Nat} {A : Option Addr} {zs : List Int} (h : IntsAt w B A zs) (hb : Below B w w') : IntsAt w' B A zs := by
  intro i z hi
  obtain ⟨a, ha, hlt, hc⟩ := h i z hi
  exact ⟨a, ha, hlt, (hb.cell hlt).trans hc⟩

/-- The value at a place. -/
def getV (xs : List V) (z : Int) : V := (xs[z.toNat]?).getD ⟨0, false, 0, ⟨#[]⟩⟩
theorem getV_at (xs : List V) (z : Int) (h : inR xs.length z = true) : xs[z.toNat]? = some (getV xs z) := by
  unfold inR at h
  rw [Bool.and_eq_true, decide_eq_true_eq, decide_eq_true_eq] at h
  have hz : z.toNat < xs.length := by omega
  unfold getV
  rw [List.getElem?_eq_getElem hz]
  rfl
/-- What Pick answers: the cells at the places, and the error's number. -/
def pickR (xs : List V) (zs : List Int) : List V × Int := if zs.all (inR xs.length) = true then (zs.map (getV xs), 0) else ([], 2)
/-- A call that answers a row of its own and an error's number. -/
def Picked (w : World) (r : List V × Int) (e : Ending) (w' : World) : Prop := ∃ v, e = .returned (.tuple #[v, .int .i64 r.2]) ∧ Own w' w.heap.size v r.1 ∧ Below w.heap.size w w'

theorem all_take_succ (p : Int → Bool) (zs : List Int) (k : Nat) (z : Int) (h : zs[k]? = some z) : (zs.take (k + 1)).all p = ((zs.take k).all p && p z) := by
  rw [List.take_add_one, h]
  simp
theorem map_take_succ (f : Int → V) (zs : List Int) (k : Nat) (z : Int) (h : zs[k]? = some z) : (zs.take (k + 1)).map f = (zs.take k).map f ++ [f z] := by
  rw [List.take_add_one, h]
  simp
theorem pickR_no (xs : List V) (zs : List Int) (k : Nat) (z : Int) (h : zs[k]? = some z) (hz : inR xs.length z = false) : pickR xs zs = ([], 2) := by
  unfold pickR
  rw [if_neg]
  intro ha
  have := List.all_eq_true.1 ha z (List.mem_of_getElem? h)
  rw [hz] at this
  cases this

end Go.Proofs.Ytoeggpoeongnhaa
