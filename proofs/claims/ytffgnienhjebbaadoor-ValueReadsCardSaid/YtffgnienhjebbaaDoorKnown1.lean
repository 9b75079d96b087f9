/-
  The fixed calls that every statement of package value makes answer as they must, in every world where the library's three variables are as the program's text lays them; nothing that was there is changed.
-/
import Derived.Test.YtffgnienhjebbaaDoorRead
import Derived.KernelRfl
namespace Go.Proofs.YtffgnienhjebbaaDoor
open Go.RowKit

attribute [local go_sem high] equal_val

def kT : V := ⟨3, false, 0, ⟨#[97, 34, 10]⟩⟩
theorem show_kT : showV kT = [34, 97, 92, 34, 92, 120, 48, 97, 34] := by kernel_rfl
theorem guess_kT : guessV [34, 97, 92, 34, 92, 120, 48, 97, 34] = kT := by kernel_rfl
theorem read_kT : readR [34, 97, 92, 34, 92, 120, 48, 97, 34] = (kT, 0) := by
  unfold readR
  rw [guess_kT, show_kT]
  rfl
theorem guess_no : guessV [48, 49] = ⟨2, false, 1, ⟨#[]⟩⟩ := by kernel_rfl
theorem read_no : readR [48, 49] = (⟨0, false, 0, ⟨#[]⟩⟩, 7) := by
  have h : showV ⟨2, false, 1, ⟨#[]⟩⟩ = [49] := by
    have e : showV ⟨2, false, 1, ⟨#[]⟩⟩ = Lib.itoa 1 := by kernel_rfl
    rw [e]
    simp [Lib.itoa, Lib.decDigits]
  unfold readR
  rw [guess_no, h]
  rfl

/-- The four cells of a box at block g, and what was there is as it was. -/
def Held4 (w3 : World) (g : Nat) (a b c d : Value) : Prop := g < w3.heap.size ∧ w3.cell? ⟨g, 0, none⟩ = some a ∧ w3.cell? ⟨g, 1, none⟩ = some b ∧ w3.cell? ⟨g, 2, none⟩ = some c ∧ w3.cell? ⟨g, 3, none⟩ = some d
theorem keepS {w3 w' : World} {g : Nat} {a b c d : Value} (h : Held4 w3 g a b c d) (hb : Below w3.heap.size w3 w') :
    w'.cell? ⟨g, 0, none⟩ = some a ∧ w'.cell? ⟨g, 1, none⟩ = some b ∧ w'.cell? ⟨g, 2, none⟩ = some c ∧ w'.cell? ⟨g, 3, none⟩ = some d ∧ Below w3.heap.size w3 w' := by
  obtain ⟨hg, h0, h1, h2, h3⟩ := h
  exact ⟨(hb.cell (p := ⟨g, 0, none⟩) hg).trans h0, (hb.cell (p := ⟨g, 1, none⟩) hg).trans h1, (hb.cell (p := ⟨g, 2, none⟩) hg).trans h2, (hb.cell (p := ⟨g, 3, none⟩) hg).trans h3, hb⟩

theorem bon' {B : Nat} {a b c : World} (h : Below B a b) (hB : B ≤ a.heap.size) (k : Below b.heap.size b c) : Below B a c := h.trans (k.mono (Nat.le_trans hB h.size))

set_option maxRecDepth 100000 in
set_option maxHeartbeats 4000000 in
theorem known (w : World) (hv : Vars w) : Calls Tryd.prog 27 #[] w fun e w' => e = .returned (.bool true) ∧ Below w.heap.size w w' := by
  have HV := Lib.hid hv
  clear hv
  go_enter Tryd.func27, Tryd.ntmps27
  go_wp2_with (go_at_call 28; fail)
  refine (read_all ⟨#[34, 97, 92, 34, 92, 120, 48, 97, 34]⟩ _ (by exact HV.out)).mono ?_
  rintro e w1 ⟨he, hb1⟩
  rw [show readR (⟨#[34, 97, 92, 34, 92, 120, 48, 97, 34]⟩ : ByteArray).data.toList = (kT, 0) from read_kT] at he
  have he' : e = .returned (.tuple #[.agg #[.int .i64 3, .bool false, .int .i64 0, .string ⟨#[97, 34, 10]⟩], .int .i64 0]) := he
  clear he
  subst he'
  have HB1 := Lib.hid hb1
  clear hb1
  go_wp2_with (go_at_call 28; fail)
  have hb1' : Below w.heap.size w (w1.alloc (.cells #[.int .i64 3, .bool false, .int .i64 0, .string ⟨#[97, 34, 10]⟩] 51)) := bnew' HB1.out (Nat.le_refl _) _
  refine (read_all ⟨#[48, 49]⟩ _ (by exact HV.out.later hb1')).mono ?_
  rintro e w2 ⟨he, hb2⟩
  rw [show readR (⟨#[48, 49]⟩ : ByteArray).data.toList = (⟨0, false, 0, ⟨#[]⟩⟩, 7) from read_no] at he
  have he' : e = .returned (.tuple #[.agg #[.int .i64 0, .bool false, .int .i64 0, .string ⟨#[]⟩], .int .i64 7]) := he
  clear he
  subst he'
  have H4 : Hid (Held4 w2 w1.heap.size (.int .i64 3) (.bool false) (.int .i64 0) (.string ⟨#[97, 34, 10]⟩)) := Lib.hid (by
    obtain ⟨c0, c1, c2, c3, _, _, _, _, hz⟩ := box_later hb2
    exact ⟨hz, c0, c1, c2, c3⟩)
  have HB2 : Hid (Below w.heap.size w w2) := Lib.hid (bon' hb1' (Nat.le_refl _) hb2)
  clear hb1' hb2
  go_wp2_with fail
  obtain ⟨w3, hw3⟩ : ∃ w3, w3 = w2.alloc (.cells #[.int .i64 0, .bool false, .int .i64 0, .string ⟨#[]⟩] 51) := ⟨_, rfl⟩
  have H43 : Hid (Held4 w3 w1.heap.size (.int .i64 3) (.bool false) (.int .i64 0) (.string ⟨#[97, 34, 10]⟩)) := Lib.hid (by
    obtain ⟨hg, h⟩ := H4.out
    rw [hw3]
    have hs := (one_new w2 (.cells #[.int .i64 0, .bool false, .int .i64 0, .string ⟨#[]⟩] 51))
    obtain ⟨k0, k1, k2, k3, _⟩ := keepS H4.out hs
    exact ⟨Nat.lt_of_lt_of_le hg hs.size, k0, k1, k2, k3⟩)
  have HB3 : Hid (Below w.heap.size w w3) := Lib.hid (by rw [hw3]; exact bnew' HB2.out (Nat.le_refl _) _)
  rw [← hw3]
  clear hw3 H4 HB2
  have e1 : eqV ⟨3, false, 0, ⟨#[97, 34, 10]⟩⟩ ⟨3, false, 0, ⟨#[97, 34, 10]⟩⟩ = true := (eqV_iff _ _).2 rfl
  have e2 : eqV ⟨0, false, 0, ⟨#[]⟩⟩ ⟨0, false, 0, ⟨#[]⟩⟩ = true := (eqV_iff _ _).2 rfl
  have e3 : eqV ⟨1, true, 0, ⟨#[]⟩⟩ ⟨1, true, 0, ⟨#[]⟩⟩ = true := (eqV_iff _ _).2 rfl
  have e4 : eqV ⟨2, false, -3, ⟨#[]⟩⟩ ⟨2, false, -3, ⟨#[]⟩⟩ = true := (eqV_iff _ _).2 rfl
  go_region_held3 (fun w' => w'.cell? ⟨w1.heap.size, 0, none⟩ = some (.int .i64 3) ∧ w'.cell? ⟨w1.heap.size, 1, none⟩ = some (.bool false) ∧ w'.cell? ⟨w1.heap.size, 2, none⟩ = some (.int .i64 0) ∧ w'.cell? ⟨w1.heap.size, 3, none⟩ = some (.string ⟨#[97, 34, 10]⟩) ∧ Below w3.heap.size w3 w') (((refine keepS H43.out ?_; repeat (first | assumption | exact Below.refl _ _ | apply Below.drew | apply below_drewN' | (refine bnew' ?_ (Nat.le_refl _) _) | (refine bon' ?_ (Nat.le_refl _) (by assumption)))); done))
    (first
      | (go_at_call 44; refine (mk_text _ _).mono ?_; rintro e w4 ⟨rfl, rfl⟩)
      | (go_at_call 30; refine (show_val kT _ (by exact ⟨by decide, by decide⟩) (by exact HV.out.later (bon' HB3.out (Nat.le_refl _) (by repeat (first | assumption | exact Below.refl _ _ | apply Below.drew | apply below_drewN' | (refine bnew' ?_ (Nat.le_refl _) _) | (refine bon' ?_ (Nat.le_refl _) (by assumption))))))).mono ?_; rintro e w5 ⟨rfl, hb5⟩; rw [show_kT])
      | (go_at_call 45; refine (mk_null _).mono ?_; rintro e w6 ⟨rfl, rfl⟩)
      | (go_at_call 46; refine (mk_bool _ _).mono ?_; rintro e w7 ⟨rfl, rfl⟩)
      | (go_at_call 47; refine (mk_int _ _).mono ?_; rintro e w8 ⟨rfl, rfl⟩))
  go_wp2
  go_ret
  refine ⟨rfl, bon' HB3.out (Nat.le_refl _) ?_⟩
  repeat (first | assumption | exact Below.refl _ _ | apply Below.drew | apply below_drewN' | (refine bnew' ?_ (Nat.le_refl _) _) | (refine bon' ?_ (Nat.le_refl _) (by assumption)))
end Go.Proofs.YtffgnienhjebbaaDoor
