/-
  The program's copy of a tree: another one with the same tenants, in blocks of its own.
  No condition.
-/
import Derived.Test.YtoeggpoeongnhaaTnz
import Derived.Test.YtoeggpoeongnhaaTclone
import Derived.Shelf.SlMaps.Clone
namespace Go.Proofs.Ytoeggpoeongnhaa
open Go.RowKit Go.Maps Go.Shelf

set_option maxRecDepth 100000 in
set_option maxHeartbeats 1000000 in
theorem t_copy (t b : Nat) (D : DataW Value) (L : List Tn) (w : World) (hT : TreeB w t b D L) :
    Calls Try.prog 51 #[.pointer (some ⟨t, 0, none⟩)] w fun e w' => ∃ t2, e = .returned (.pointer (some ⟨t2, 0, none⟩)) ∧ TreeB w' t2 w.heap.size D L ∧ w.heap.size < t2 ∧ Below w.heap.size w w' := by
  obtain ⟨h1, h2, h3, h4, h5, h6⟩ := hT
  have c0 := cell_rowT w t _ _ h1
  have HC := Lib.hid (AnyW.maps_Clone_owns Try.clTn 9 RpT b L.length D w h2)
  have HR := Lib.hid h3
  clear h1 h2 h3
  go_enter Try.func51, Try.ntmps51
  go_wp2_with fail
  refine HC.out.mono ?_
  rintro e w1 ⟨rfl, ho, _, hb1⟩
  have hl := ho.lt
  have HO := Lib.hid ho
  have HB := Lib.hid hb1
  clear ho hb1
  go_wp2
  go_ret
  exact ⟨w1.heap.size, by simp, ⟨World.alloc_heap_new w1 _, ownsMapT_block HO.out ((one_new w1 _).block _ hl), HR.out, by omega, by simp, by simp; omega⟩, hl, HB.out.trans ((one_new w1 _).mono HB.out.size)⟩
/-- Both trees, copied. -/
theorem StT.copied {w w1 w2 : World} {q t b r t2 : Nat} {v v2 : Value} {L : List Tn} {D : DataW Value} (h : StT w q t b r v L) (hT : TreeB w1 t2 w.heap.size D L) (hb1 : Below w.heap.size w w1)
    (hR : RefB w2 w1.heap.size w1.heap.size v2 L) (hb2 : Below w1.heap.size w1 w2) : StT w2 w.heap.size t2 w.heap.size w1.heap.size v2 L := by
  have h1 := hT.2.2.2.2.1
  have h2 := hT.2.2.2.2.2
  refine ⟨⟨D, hT.below hb2⟩, ⟨hR.1, OwnN.lower hR.2 hb1.size⟩, h.2.2.1, by omega, by omega, fun k hk => ?_, Nat.le_refl _, hb1.size⟩
  have := OwnN.base_le hR.2 k hk
  omega
theorem StT.keep {w w' : World} {q t b r H : Nat} {v : Value} {L : List Tn} (h : StT w q t b r v L) (hH : H = w.heap.size) (hb : Below H w w') : StT w' q t b r v L := by
  subst hH
  exact h.below hb
end Go.Proofs.Ytoeggpoeongnhaa
