/-
  Depth of a tenant; whether one stands under another.
  Condition: names are no longer than texts can be; from the tenant up it comes to an end, behind no more than a thousand names.
-/
import Derived.Test.YtoeggpoeongnhaaTnc
namespace Go.Proofs.Ytoeggpoeongnhaa
open Go.RowKit Go.Maps Go.Shelf

attribute [local go_sem] Oper.semAt_some

theorem OwnL.form {w : World} {base : Nat} {v : Value} {ss : List ByteArray} (h : OwnL w base v ss) : ∃ A c, v = .slice A ss.length c := by
  rcases h.2 with ⟨rfl, hn⟩ | ⟨g, cap, cur, rfl, _, _, _, _⟩
  · have hl : ss.length = 0 := by first | omega | simpa using hn
    exact ⟨none, 0, by rw [hl]⟩
  · exact ⟨_, cap, rfl⟩
set_option maxHeartbeats 1000000 in
theorem t_depth (t b : Nat) (D : DataW Value) (L : List Tn) (w : World) (nm : ByteArray) (ys : List ByteArray) (hc : Chain L nm ys) (hT : TreeB w t b D L) (hl : ∀ x ∈ L, x.2.size ≤ maxLen) (hn : nm.size ≤ maxLen) (hy : ys.length ≤ 1000) :
    Calls Try.prog 37 #[.pointer (some ⟨t, 0, none⟩), .string nm] w fun e w' => e = .returned (.int .i64 (ys.length : Int)) ∧ Below w.heap.size w w' := by
  have HA := Lib.hid (t_above t b D L w nm ys hc hT hl hn hy)
  clear hc hT hl hn
  go_enter Try.func37, Try.ntmps37
  go_wp2_with fail
  refine HA.out.mono ?_
  rintro e w2 ⟨v, rfl, hown, hb⟩
  obtain ⟨A, c, rfl⟩ := hown.form
  have HB := Lib.hid hb
  clear hown hb
  go_wp2
  go_ret
  exact ⟨rfl, HB.out⟩

def hasX (ab : ByteArray) (ys : List ByteArray) : Bool := ys.any fun x => x.toList == ab.toList
/-- What the loop of isUnder has behind the names that have come. -/
def UJ (h : Nat) (ab : ByteArray) (r : Bool) (W : World) : Prop := Boxed W h 9 (.string ab) ∧ Boxed W (h + 1) 4 (.bool r)
theorem uj_own {α : Type} (h : Nat) (ab : ByteArray) (r : Bool) : Go.Own (fun (_ : α) W => UJ h ab r W) := by
  intro s X Y row hs hg hr
  obtain ⟨h1, h2⟩ := hs
  exact ⟨boxed_own (β := Unit) _ _ (fun _ => _) () X Y row h1 hg hr, boxed_own (β := Unit) _ _ (fun _ => _) () X Y row h2 hg hr⟩

set_option maxRecDepth 100000 in
set_option maxHeartbeats 2000000 in
theorem t_isUnder (t b : Nat) (D : DataW Value) (L : List Tn) (w : World) (nm ab : ByteArray) (ys : List ByteArray) (hc : Chain L nm ys) (hT : TreeB w t b D L) (hl : ∀ x ∈ L, x.2.size ≤ maxLen) (hn : nm.size ≤ maxLen) :
    Calls Try.prog 78 #[.pointer (some ⟨t, 0, none⟩), .string nm, .string ab] w fun e w' => e = .returned (.bool (hasX ab ys)) ∧ Below w.heap.size w w' := by
  obtain ⟨W0, hW0⟩ : ∃ W0, W0 = (((w.alloc (.cells #[.string ab] 9)).alloc (.cells #[.bool false] 4)).alloc (.cells #[.pointer (some ⟨t, 0, none⟩)] 61)).alloc (.cells #[.string nm] 9) := ⟨_, rfl⟩
  have bA := ((Boxed.new w 9 (.string ab)).alloc (.cells #[.bool false] 4)).alloc (.cells #[.pointer (some ⟨t, 0, none⟩)] 61) |>.alloc (.cells #[.string nm] 9)
  have bR := ((Boxed.new (w.alloc (.cells #[.string ab] 9)) 4 (.bool false)).alloc (.cells #[.pointer (some ⟨t, 0, none⟩)] 61)).alloc (.cells #[.string nm] 9)
  have bP := (Boxed.new ((w.alloc (.cells #[.string ab] 9)).alloc (.cells #[.bool false] 4)) 61 (.pointer (some ⟨t, 0, none⟩))).alloc (.cells #[.string nm] 9)
  have bN := Boxed.new (((w.alloc (.cells #[.string ab] 9)).alloc (.cells #[.bool false] 4)).alloc (.cells #[.pointer (some ⟨t, 0, none⟩)] 61)) 9 (.string nm)
  have hB0 : Below w.heap.size w ((((w.alloc (.cells #[.string ab] 9)).alloc (.cells #[.bool false] 4)).alloc (.cells #[.pointer (some ⟨t, 0, none⟩)] 61)).alloc (.cells #[.string nm] 9)) := (((one_new w _).alloc (by simp) _).alloc (by simp; omega) _).alloc (by simp; omega) _
  have hsz : ((((w.alloc (.cells #[.string ab] 9)).alloc (.cells #[.bool false] 4)).alloc (.cells #[.pointer (some ⟨t, 0, none⟩)] 61)).alloc (.cells #[.string nm] 9)).heap.size = w.heap.size + 4 := by simp
  simp only [World.size_alloc] at bR bP bN
  rw [← hW0] at bA bR bP bN hB0 hsz
  have HT := Lib.hid (fun n W1 (hb : Below W0.heap.size W0 W1) => up_stops n (w.heap.size + 1 + 1 + 1) (w.heap.size + 1 + 1) t b D L W0 nm ys hc (hT.below hB0) hl hn bN.cell bP.cell W1 hb)
  have HW0 := Lib.hid hW0
  clear hc hT hl hn bP bN hW0
  refine (callsIn_wide (n := 5)).1 ?_
  refine callsIn_of_wp_marks Try.func78 rfl trivial ?_ rfl
  simp only [Try.ntmps78, List.size_toArray, List.length_cons, List.length_nil, Nat.reduceAdd, Nat.reduceSub, Array.replicate_succ, Array.replicate_zero, List.push_toArray, List.append_toArray, List.nil_append, List.cons_append]
  gi_wp2_with fail
  refine ⟨trivial, ?_⟩
  refine (callsIn_wide.2 (t_up _ nm _)).mono ?_
  rintro e w1 ⟨rfl, rfl⟩
  gi_wp2
  rw [← HW0.out]
  refine wpIn_rangeFunc_ownG rfl (by omega) (gf := 105) (lb := #[.pointer (some ⟨w.heap.size + 1 + 1 + 1, 0, none⟩), .pointer (some ⟨w.heap.size + 1 + 1, 0, none⟩)]) rfl trivial (enters_of Try.func105 (by kernel_rfl) rfl)
    (HT.out _ _ (Below.refl _ _)) belowK_t (belowK_b (Nat.le_refl _)) (Below.refl _ _) (fun _ => rfl)
    (fun pre W => UJ w.heap.size ab false W ∧ Hid (hasX ab pre = false) ∧ Below w.heap.size w W)
    (fun c pre W => UJ w.heap.size ab true W ∧ (c = .ret ∧ Hid (hasX ab pre = true)) ∧ Below w.heap.size w W)
    (OwnFrom.and (Own.from (uj_own _ _ _) _) (OwnFrom.and (ownFrom_pure _ _) (ownFrom_below (Nat.le_refl _) (by omega))))
    (fun c => OwnFrom.and (Own.from (uj_own _ _ _) _) (OwnFrom.and (ownFrom_pure _ _) (ownFrom_below (Nat.le_refl _) (by omega))))
    ⟨⟨bA, bR⟩, Lib.hid rfl, hB0⟩
    (fun x => { tmps := #[.pointer (some ⟨t, 0, none⟩), .string nm, .string ab, undef, undef, .pointer (some ⟨w.heap.size, 0, none⟩), .pointer (some ⟨w.heap.size + 1, 0, none⟩), .string x, .pointer (some ⟨t, 0, none⟩), .string nm, .func (.func 105) #[] #[.pointer (some ⟨w.heap.size + 1 + 1 + 1, 0, none⟩), .pointer (some ⟨w.heap.size + 1 + 1, 0, none⟩)], .string x, undef, undef, undef], defers := [] }) ?assign ?body ?done ?stop
  case assign =>
    intro l x W K hK
    gi_wp2
    exact hK
  case body =>
    rintro lb pre x W ⟨⟨h1, h2⟩, h3, h4⟩ hpl
    have cA := h1.cell
    have fR := h2.frozen
    have cR := h2.cell
    have H1 := Lib.hid h1
    have H2 := Lib.hid h2
    have H4 := Lib.hid h4
    have happ : hasX ab (pre ++ [x]) = (hasX ab pre || (x.toList == ab.toList)) := by unfold hasX; rw [List.any_append]; simp
    have HAP := Lib.hid happ
    clear h1 h2 h4 happ
    rcases Bool.eq_false_or_eq_true (x.toList == ab.toList) with he | he
    · have HE := Lib.hid he
      gi_wp2
      exact ⟨(KeepsOthers.setCell _ _ _).from _, ⟨Boxed.other H1.out (B' := w.heap.size + 1) (by omega) _, Boxed.set (.bool true) H2.out⟩, ⟨rfl, Lib.hid (by rw [HAP.out, HE.out, Bool.or_true])⟩, H4.out.setCell (p := ⟨w.heap.size + 1, 0, none⟩) (by simp) _⟩
    · have HE := Lib.hid he
      gi_wp2
      exact ⟨KeepsFrom.refl _ _, Below.refl _ _, ⟨H1.out, H2.out⟩, Lib.hid (by rw [HAP.out, HE.out, h3.out]; rfl), H4.out⟩
  case done =>
    rintro E ys' W hD rfl ⟨⟨h1, h2⟩, h3, h4⟩ hK
    have cR := h2.cell
    have fR := h2.frozen
    have H2 := Lib.hid h2
    have H4 := Lib.hid h4
    have HK := Lib.hid hK
    clear h1 h2 h4 hK
    gi_wp2
    have hK2 : (W.setCell ⟨w.heap.size + 1, 0, none⟩ (.bool false)).heap[E]? = some (.deferred (some [])) := by
      rw [Below.heap_setCell _ _ _ E (by show E ≠ w.heap.size + 1; omega)]
      exact HK.out
    refine ⟨by simp, .inl ⟨_, _, rfl, run_takeDeferred hK2, ?_⟩⟩
    have d0 := ((Boxed.set (.bool false) H2.out).kept (grownBy_putObj' _ E (.deferred none)) (by simp; omega)).cell
    refine ⟨.bool false, ?_, by rw [h3.out], (H4.out.setCell (p := ⟨w.heap.size + 1, 0, none⟩) (by simp) _).trans (belowK_b (w := w) (Nat.le_refl _) _ E _ (.deferred none) (by omega) hK2 rfl rfl)⟩
    simp [results, Try.f78, go_sem, d0]
  case stop =>
    rintro E c pre W hD hpre ⟨⟨h1, h2⟩, ⟨rfl, h3⟩, h4⟩ hK
    gi_wp2
    refine ⟨by simp, .inl ⟨_, _, rfl, run_takeDeferred hK, ?_⟩⟩
    have d0 := (h2.kept (grownBy_putObj' _ E (.deferred none)) (by simp; omega)).cell
    refine ⟨.bool true, ?_, ?_, h4.trans (belowK_b (w := w) (Nat.le_refl _) _ E _ (.deferred none) (by omega) hK rfl rfl)⟩
    · simp [results, Try.f78, go_sem, d0]
    · obtain ⟨rs, hrs⟩ := hpre
      have ht : hasX ab ys = true := by
        rw [← hrs]
        unfold hasX
        rw [List.any_append]
        have := h3.out
        unfold hasX at this
        rw [this]
        rfl
      rw [ht]
end Go.Proofs.Ytoeggpoeongnhaa
