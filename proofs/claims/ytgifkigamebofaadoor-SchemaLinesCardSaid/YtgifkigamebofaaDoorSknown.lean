/-
  The fixed calls that every statement of package schema makes answer as they must, in every world where the library's variable MaxLen holds a number; nothing that was there is changed.
-/
import Derived.Test.YtgifkigamebofaaDoorSkn
namespace Go.Proofs.YtgifkigamebofaaDoor
open Go.RowKit

set_option maxRecDepth 100000 in
set_option maxHeartbeats 4000000 in
theorem known7 (w : World) (hm : MV w) : Calls Tryd.prog 7 #[] w fun e w' => e = .returned (.bool true) ∧ Below w.heap.size w w' := by
  have hrd := s_read litB w (by decide) hm
  rw [kn_read] at hrd
  have HRD := Lib.hid hrd
  clear hrd hm
  go_enter Tryd.func7, Tryd.ntmps7
  go_wp2_with fail
  refine HRD.out.mono ?_
  rintro e w1 ⟨v, he, hv, hb1⟩
  have he' : e = .returned (.tuple #[.agg #[.string podB, v], .int .i64 0]) := he
  clear he
  subst he'
  have hv' : IsCols w1 (fun _ => True) v [c1, c2, c3] := hv.imp (fun _ _ _ => trivial)
  have HV := Lib.hid hv'
  obtain ⟨_, A, c, rfl, _, _, hcs⟩ := hv'
  obtain ⟨a, rfl, ha, q0, q1, q2⟩ := hcs.col 2 c3 rfl
  have HB1 := Lib.hid hb1
  clear hb1 hv hcs
  go_wp2_with fail
  obtain ⟨W2, hW2⟩ : ∃ W2, W2 = (w1.alloc (.cells #[.string podB, .slice (some a) 3 c] 34)).alloc (.cells #[.string podB, .slice (some a) 3 c] 34) := ⟨_, rfl⟩
  have hk : IsKinds W2 (fun _ => True) (.slice (some ⟨w1.heap.size + 1, 0, none⟩) 1 1) [podS] := by
    refine ⟨by decide, _, 1, rfl, (fun h => by cases h), Nat.le_refl _, [(podB, .slice (some a) 3 c)], ⟨rfl, ?_, trivial⟩, ?_⟩
    · rw [hW2]; exact (HV.out.below (one_new _ _)).below (one_new _ _)
    · rw [hW2]
      have h := sc_lit1 (w1.alloc (.cells #[.string podB, .slice (some a) 3 c] 34)) podB (.slice (some a) 3 c)
      rw [World.size_alloc] at h
      exact h
  have hbox : BoxS W2 w1.heap.size podB (.slice (some a) 3 c) := by rw [hW2]; refine ⟨?_, ?_, ?_, ?_, ?_⟩ <;> simp [go_sem]
  have HB2 := Lib.hid (show Below w.heap.size w W2 by rw [hW2]; exact HB1.out.trans ((two_new w1 _ _).mono HB1.out.size))
  have hVW : IsCols W2 (fun _ => True) (.slice (some a) 3 c) [c1, c2, c3] := by rw [hW2]; exact (HV.out.below (one_new _ _)).below (one_new _ _)
  have HV2 := Lib.hid hVW
  have HK := Lib.hid (s_new (fun _ => True) _ [podS] W2 hk)
  have HBX := Lib.hid hbox
  clear hk hbox hVW q0 q1 q2
  have hcall : Calls Tryd.prog 8 #[.slice (some ⟨w1.heap.size + 1, 0, none⟩) 1 1] ((w1.alloc (.cells #[.string podB, .slice (some a) 3 c] 34)).alloc (.cells #[.string podB, .slice (some a) 3 c] 34)) (NewIs W2 [podS]) := by rw [← hW2]; exact HK.out
  refine hcall.mono ?_
  rintro e w3 ⟨hb3, h3⟩
  obtain ⟨g, rfl, hset⟩ : ∃ g, e = .returned (.tuple #[.pointer (some ⟨g, 0, none⟩), .int .i64 0]) ∧ SetIs w3 (Behind W2) g [podS] := by
    rcases h3 with ⟨_, g, he, hs⟩ | ⟨hn, _⟩
    · exact ⟨g, he, hs⟩
    · exact absurd kn_fault hn
  clear hcall
  have HBX3 := Lib.hid (HBX.out.below hb3)
  have HV3 := Lib.hid (HV2.out.below hb3)
  have HB3 := Lib.hid (HB2.out.trans (hb3.mono HB2.out.size))
  have HS3 := Lib.hid hset
  clear hb3 hset hW2
  go_wp2_with fail
  have hco := s_columns _ g [podS] podB w3 HS3.out (by intro x hx; rw [List.mem_singleton.1 hx]; decide)
  rw [kn_cols] at hco
  refine hco.mono ?_
  rintro e w4 ⟨hb4, u, rfl, hu⟩
  have HBX4 := Lib.hid (HBX3.out.below hb4)
  have HV4 := Lib.hid (HV3.out.below hb4)
  have HB4 := Lib.hid (HB3.out.trans (hb4.mono HB3.out.size))
  obtain ⟨_, A5, c5, rfl, _, _, hcs5⟩ := hu
  obtain ⟨a5, rfl, ha5, u0, u1, u2⟩ := hcs5.col 0 (textC spaceB) rfl
  obtain ⟨_, A6, c6, e6, _, _, hcs6⟩ := HV4.out
  injection e6 with e61 e62 e63
  subst e61 e63
  clear e62
  obtain ⟨a6, ha6', ha6, q0, q1, q2⟩ := hcs6.col 2 c3 rfl
  injection ha6' with ha6'
  subst ha6'
  obtain ⟨x0, x1, x2, x3, x4⟩ := HBX4.out
  have HL := Lib.hid (s_line (fun _ => True) podS (.slice (some a) 3 c) w4 HV4.out)
  clear hco hb4 hcs5 hcs6 u1 u2 q0 q1
  have hlit : (⟨(lineS podS).toArray⟩ : ByteArray) = litB := by rw [kn_line]
  rw [hlit] at HL
  have q9 : w4.cell? { block := a.block, off := a.off + 6 + 2 } = some (.bool true) := by
    have q2' : w4.cell? { block := (a.add (2 * 3)).block, off := (a.add (2 * 3)).off + 2 } = some (.bool true) := q2
    simpa [Addr.add] using q2'
  have q10 : a.block < w4.heap.size := by simpa [Addr.add] using ha6
  have u9 : w4.cell? a5 = some (.string spaceB) := by
    have u0' : w4.cell? (a5.add (0 * 3)) = some (.string spaceB) := u0
    simpa [Addr.add] using u0'
  have u10 : a5.block < w4.heap.size := by simpa [Addr.add] using ha5
  have e1 : (spaceB.toList == [115, 112, 97, 99, 101]) = true := by unfold spaceB; rw [ByteArray.toList_eq]; rfl
  have e2 : (litB.toList == [107, 105, 110, 100, 32, 112, 111, 100, 32, 105, 109, 97, 103, 101, 58, 116, 101, 120, 116, 32, 99, 112, 117, 58, 105, 110, 116, 32, 110, 111, 100, 101, 58, 116, 101, 120, 116, 63]) = true := by unfold litB; rw [ByteArray.toList_eq]; rfl
  clear q2 u0 ha6 ha5
  go_wp2_with (go_at_call 18; fail)
  refine HL.out.mono ?_
  rintro e w5 ⟨rfl, hb5⟩
  have HB5 := Lib.hid (HB4.out.trans (hb5.mono HB4.out.size))
  have N1 := Lib.hid kn_n1
  have N2 := Lib.hid kn_n2
  clear hb5
  go_wp2_with fail
  refine (s_name _ _).mono ?_
  rintro e w6 ⟨rfl, rfl⟩
  rw [N1.out]
  go_wp2_with fail
  refine (s_name _ _).mono ?_
  rintro e w7 ⟨rfl, rfl⟩
  rw [N2.out]
  go_wp2
  go_ret
  exact ⟨rfl, HB5.out⟩
end Go.Proofs.YtgifkigamebofaaDoor
