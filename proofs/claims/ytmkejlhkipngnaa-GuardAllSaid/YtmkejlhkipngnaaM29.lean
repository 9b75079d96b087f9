/-
  Free of package guard: the first variable that a rule asks, but that no atom binds.
  Condition: a rule of which not very much is to be read.
-/
import Derived.WalkMore
import Derived.Test.YtmkejlhkipngnaaM28
namespace Go.Proofs.Ytmkejlhkipngnaa
open Go.RowKit Go.Maps

abbrev RuG.pl (r : RuG) : RuP := ⟨r.k, r.nm, r.head, r.ag, r.ofv, r.lim, r.body.map LmG.li⟩
theorem box7g_of {W : World} {g : Nat} {a b c d e f k : Value} {T : TypeId} (h : W.heap[g]? = some (.cells #[a, b, c, d, e, f, k] T (0, 0))) :
    W.cell? ⟨g, 0, none⟩ = some a ∧ W.cell? ⟨g, 1, none⟩ = some b ∧ W.cell? ⟨g, 2, none⟩ = some c ∧ W.cell? ⟨g, 3, none⟩ = some d ∧ W.cell? ⟨g, 4, none⟩ = some e ∧ W.cell? ⟨g, 5, none⟩ = some f ∧ W.cell? ⟨g, 6, none⟩ = some k :=
  ⟨cell_of_row _ g 0 _ _ (0, 0) h, cell_of_row _ g 1 _ _ (0, 0) h, cell_of_row _ g 2 _ _ (0, 0) h, cell_of_row _ g 3 _ _ (0, 0) h, cell_of_row _ g 4 _ _ (0, 0) h, cell_of_row _ g 5 _ _ (0, 0) h, cell_of_row _ g 6 _ _ (0, 0) h⟩
theorem body_small {body : List LmG} (hl : body.length ≤ 41) (h : ∀ x ∈ body, x.args.length ≤ 5000) : (bndL (body.map LmG.li)).length ≤ 205000 := by
  have h1 := foldL_len (body.map LmG.li) [] (fun x hx => by
    obtain ⟨y, hy, rfl⟩ := List.mem_map.1 hx
    exact h y hy)
  rw [List.length_map] at h1
  have h3 : body.length * 5000 ≤ 41 * 5000 := Nat.mul_le_mul_right _ hl
  simp only [List.length_nil, Nat.zero_add] at h1
  unfold bndL
  omega
theorem foldT_sz (l : List TmP) (out : List ByteArray) (h1 : ∀ t ∈ l, t.s.size ≤ maxLen) (h2 : ∀ s ∈ out, s.size ≤ maxLen) : ∀ s ∈ l.foldl stepT out, s.size ≤ maxLen := by
  induction l generalizing out with
  | nil => exact h2
  | cons t l ih =>
    refine ih (stepT out t) (fun u hu => h1 u (List.mem_cons_of_mem _ hu)) fun s hs => ?_
    unfold stepT at hs
    split at hs
    · rcases List.mem_append.1 hs with h | h
      · exact h2 s h
      · rw [List.mem_singleton.1 h]; exact h1 t (List.mem_cons_self ..)
    · exact h2 s hs
theorem foldL_sz (l : List LiP) (out : List ByteArray) (h1 : ∀ x ∈ l, ∀ t ∈ x.args, t.s.size ≤ maxLen) (h2 : ∀ s ∈ out, s.size ≤ maxLen) : ∀ s ∈ l.foldl stepL out, s.size ≤ maxLen := by
  induction l generalizing out with
  | nil => exact h2
  | cons x l ih =>
    refine ih (stepL out x) (fun u hu => h1 u (List.mem_cons_of_mem _ hu)) ?_
    unfold stepL
    split
    · exact foldT_sz _ _ (h1 x (List.mem_cons_self ..)) h2
    · exact h2

set_option maxRecDepth 100000 in
set_option maxHeartbeats 8000000 in
theorem p_Free (r : RuG) (w : World) (hr : r.Ok w) (hsm : r.Sml) :
    Calls Try.prog 7 #[.agg r.cells] w fun e w' => e = .returned (.tuple #[.string (freeX r.pl).1, .int .i64 (freeX r.pl).2.1, .bool (freeX r.pl).2.2]) ∧ Below w.heap.size w w' := by
  obtain ⟨k0, nm, hA, hc, head, ag, ofv, lim, bA, bc, body⟩ := r
  have hmm := @run_makeMap Try.prog
  obtain ⟨F, hF⟩ : ∃ F, F = freeX (RuG.pl (⟨k0, nm, hA, hc, head, ag, ofv, lim, bA, bc, body⟩ : RuG)) := ⟨_, rfl⟩
  rw [← hF]
  show Calls Try.prog 7 #[.agg #[.int .i64 k0, .string nm, .slice hA head.length hc, .int .i64 ag, .string ofv, .int .i64 lim, .slice bA body.length bc]] w fun e w' => e = .returned (.tuple #[.string F.1, .int .i64 F.2.1, .bool F.2.2]) ∧ Below w.heap.size w w'
  obtain ⟨b, hb⟩ : ∃ b, b = bndL (body.map LmG.li) := ⟨_, rfl⟩
  obtain ⟨T, hT⟩ : ∃ T : List ByteArray, T = head ++ if 2 ≤ ag ∧ ag ≤ 4 then [ofv] else [] := ⟨_, rfl⟩
  have hF2 : F = match T.find? (fun s => !hasX s b) with
      | some s => (s, -1, true)
      | none => match bodF b 0 (body.map LmG.li) with
        | some (s, i) => (s, (i : Int), true)
        | none => (⟨#[]⟩, 0, false) := by rw [hF, hb, hT]; rfl
  have hbl : b.length ≤ 205000 := by rw [hb]; exact body_small hsm.2.1 (fun x hx => (hsm.2.2.2.2 x hx).1)
  have hbs : ∀ s ∈ b, s.size ≤ maxLen := by
    rw [hb]
    exact foldL_sz _ _ (fun x hx => by
      obtain ⟨y, hy, rfl⟩ := List.mem_map.1 hx
      exact (hsm.2.2.2.2 y hy).2) (fun s hs => absurd hs List.not_mem_nil)
  have hTl : T.length ≤ 201 := by
    rw [hT, List.length_append]
    have := hsm.1
    simp only at this
    split <;> simp <;> omega
  have hTs : ∀ s ∈ T, s.size ≤ maxLen := by
    rw [hT]
    intro s hs
    rcases List.mem_append.1 hs with h | h
    · exact hsm.2.2.1 s h
    · split at h
      · rw [List.mem_singleton.1 h]; exact hsm.2.2.2.1
      · exact absurd h List.not_mem_nil
  have hon := one_new w (.cells #[.int .i64 k0, .string nm, .slice hA head.length hc, .int .i64 ag, .string ofv, .int .i64 lim, .slice bA body.length bc] 25)
  have hz0 : (w.alloc (.cells #[.int .i64 k0, .string nm, .slice hA head.length hc, .int .i64 ag, .string ofv, .int .i64 lim, .slice bA body.length bc] 25)).heap.size = w.heap.size + 1 := World.size_alloc _ _
  have hmap : SetG ((w.alloc (.cells #[.int .i64 k0, .string nm, .slice hA head.length hc, .int .i64 ag, .string ofv, .int .i64 lim, .slice bA body.length bc] 25)).alloc (.map #[] 0)) (w.heap.size + 1) [] 0 := ⟨0, .map [], Nat.le_refl _, by rw [← hz0]; exact World.ownsMap_made (w.alloc (.cells #[.int .i64 k0, .string nm, .slice hA head.length hc, .int .i64 ag, .string ofv, .int .i64 lim, .slice bA body.length bc] 25)) Try.prog 9 unitElem, fun s => rfl⟩
  have hb1 := one_new (w.alloc (.cells #[.int .i64 k0, .string nm, .slice hA head.length hc, .int .i64 ag, .string ofv, .int .i64 lim, .slice bA body.length bc] 25)) (.map #[] 0)
  have hok1 := (hr.below hon).below hb1
  have hpb := p_Bound (⟨k0, nm, hA, hc, head, ag, ofv, lim, bA, bc, body⟩ : RuG) ((w.alloc (.cells #[.int .i64 k0, .string nm, .slice hA head.length hc, .int .i64 ag, .string ofv, .int .i64 lim, .slice bA body.length bc] 25)).alloc (.map #[] 0)) hok1 hsm
  have HB := Lib.hid hb
  have HT := Lib.hid hT
  have HF2 := Lib.hid hF2
  have HBS := Lib.hid hbs
  have HTS := Lib.hid hTs
  have HON := Lib.hid hon
  have HM := Lib.hid hmap
  have HB1 := Lib.hid hb1
  have HOK0 := Lib.hid (hr.below hon)
  have HSM := Lib.hid hsm
  have HPB : Hid (Calls Try.prog 12 #[.agg #[.int .i64 k0, .string nm, .slice hA head.length hc, .int .i64 ag, .string ofv, .int .i64 lim, .slice bA body.length bc]] ((w.alloc (.cells #[.int .i64 k0, .string nm, .slice hA head.length hc, .int .i64 ag, .string ofv, .int .i64 lim, .slice bA body.length bc] 25)).alloc (.map #[] 0)) fun e w' => ∃ v, e = .returned v ∧ OwnSt w' ((w.alloc (.cells #[.int .i64 k0, .string nm, .slice hA head.length hc, .int .i64 ag, .string ofv, .int .i64 lim, .slice bA body.length bc] 25)).alloc (.map #[] 0)).heap.size v b ∧ Below ((w.alloc (.cells #[.int .i64 k0, .string nm, .slice hA head.length hc, .int .i64 ag, .string ofv, .int .i64 lim, .slice bA body.length bc] 25)).alloc (.map #[] 0)).heap.size ((w.alloc (.cells #[.int .i64 k0, .string nm, .slice hA head.length hc, .int .i64 ag, .string ofv, .int .i64 lim, .slice bA body.length bc] 25)).alloc (.map #[] 0)) w') := Lib.hid (by rw [hb]; exact hpb)
  have HBX := Lib.hid (heap_alloc_new w (.cells #[.int .i64 k0, .string nm, .slice hA head.length hc, .int .i64 ag, .string ofv, .int .i64 lim, .slice bA body.length bc] 25))
  have hsbl := hsm.2.1
  simp only at hsbl
  clear hpb hr hF hF2 hb hT hbs hTs hon hmap hb1 hok1 hsm
  go_enter Try.func7, Try.ntmps7
  go_wp2
  go_step3
  go_wp2_with (go_at_call 12; refine HPB.out.mono ?_; rintro e w2 ⟨v2, rfl, hown2, hb2⟩; have hsl2 := hown2.slice el_Str; obtain ⟨A2, c2, hv2, he2⟩ := OwnF.els hown2; subst hv2)
  have hz1 : ((w.alloc (.cells #[.int .i64 k0, .string nm, .slice hA head.length hc, .int .i64 ag, .string ofv, .int .i64 lim, .slice bA body.length bc] 25)).alloc (.map #[] 0)).heap.size = w.heap.size + 2 := by rw [World.size_alloc, World.size_alloc]
  rw [hz1] at hb2 hsl2
  have hset2 : SetG w2 (w.heap.size + 1) [] 0 := HM.out.block (hb2.block _ (by omega))
  have hA2 : ∀ a, A2 = some a → a.block ≠ w.heap.size + 1 := by
    intro a ha
    subst ha
    rcases hsl2 with ⟨h, _⟩ | ⟨g, c', h, h2, _⟩
    · cases h
    · injection h with h _ _
      injection h with h
      subst h
      show g ≠ w.heap.size + 1
      omega
  have HPT := Lib.hid (g_put hset2 (by omega) b A2 c2 (by omega) he2 HBS.out hA2)
  have hz0 : (w.alloc (.cells #[.int .i64 k0, .string nm, .slice hA head.length hc, .int .i64 ag, .string ofv, .int .i64 lim, .slice bA body.length bc] 25)).heap.size = w.heap.size + 1 := World.size_alloc _ _
  have hW2 : Below (w.heap.size + 1) (w.alloc (.cells #[.int .i64 k0, .string nm, .slice hA head.length hc, .int .i64 ag, .string ofv, .int .i64 lim, .slice bA body.length bc] 25)) w2 := (HB1.out.mono (by omega)).trans (hb2.mono (by omega))
  have HW2 := Lib.hid hW2
  have hsz2 := hb2.size
  rw [hz1] at hsz2
  clear hown2 hsl2 he2 hset2 hA2 hb2 hz1 hmm HPB HM HB1 hW2
  refine HPT.out.mono ?_
  rintro e w3 ⟨rfl, hset3, hg3⟩
  rw [List.nil_append, Nat.zero_add] at hset3
  have hW3 : Below (w.heap.size + 1) (w.alloc (.cells #[.int .i64 k0, .string nm, .slice hA head.length hc, .int .i64 ag, .string ofv, .int .i64 lim, .slice bA body.length bc] 25)) w3 := HW2.out.grown hg3 (by omega) (fun k hk => by injection hk; omega)
  have hok3 := HOK0.out.below (by rw [hz0]; exact hW3)
  have hpl := p_told (⟨k0, nm, hA, hc, head, ag, ofv, lim, bA, bc, body⟩ : RuG) w3 hok3 HSM.out
  have HPL : Hid (Calls Try.prog 16 #[.agg #[.int .i64 k0, .string nm, .slice hA head.length hc, .int .i64 ag, .string ofv, .int .i64 lim, .slice bA body.length bc]] w3 fun e w' => ∃ v, e = .returned v ∧ OwnSt w' w3.heap.size v T ∧ Below w3.heap.size w3 w') := Lib.hid (by rw [HT.out]; exact hpl)
  have hsz3 := hg3.size
  have h7 := (hW3.block w.heap.size (by omega)).trans HBX.out
  obtain ⟨d0, d1, d2, d3, d4, d5, d6⟩ := box7g_of h7
  have HW3 := Lib.hid hW3
  have HS3 := Lib.hid hset3
  clear hset3 hg3 hW3 hok3 h7 HPT HW2 hpl
  go_wp2_with fail
  refine HPL.out.mono ?_
  rintro e w4 ⟨v4, rfl, hown4, hb4⟩
  obtain ⟨A4, c4, hv4, he4⟩ := OwnF.els hown4
  subst hv4
  have HE4 := Lib.hid he4
  have HS4 := Lib.hid (HS3.out.block (hb4.block _ HS3.out.lt))
  have HW4 := Lib.hid (HW3.out.trans (hb4.mono (by omega)))
  have hsz4 := hb4.size
  clear hown4 hb4 he4
  go_wp2
  clear d0 d1 d2 d3 d4 d5 d6 HPL HS3 HW3
  go_loopw [2, 3, 4, 20] (fun v2 v3 v4 i wr => ∃ k : Nat, v2 = .string ⟨#[]⟩ ∧ v3 = .int .i64 0 ∧ v4 = .bool false ∧ i = .int .i64 k ∧ k ≤ T.length ∧ Hid (T.find? (fun s => !hasX s b) = (T.drop k).find? (fun s => !hasX s b)) ∧ Below w4.heap.size w4 wr) (fun _ _ _ i _ => T.length - (intOf i).toNat)
  case atStart => exact ⟨0, rfl, rfl, rfl, rfl, Nat.zero_le _, Lib.hid rfl, Below.refl _ _⟩
  case round =>
    obtain ⟨k, rfl, rfl, rfl, rfl, hk, HFD, hbr⟩ := hrel
    have HBR := Lib.hid hbr
    by_cases hlt : k < T.length
    · obtain ⟨x, hx⟩ : ∃ x, T[k]? = some x := ⟨_, List.getElem?_eq_getElem hlt⟩
      obtain ⟨a, rfl, c0⟩ := els_S (HE4.out.below hbr) hx
      have hxs := HTS.out x (List.mem_of_getElem? hx)
      have HHV := Lib.hid (g_have (HS4.out.block (hbr.block _ HS4.out.lt)) x hxs)
      have hfd := find_drop (fun s => !hasX s b) T k x hx
      rw [← HFD.out] at hfd
      have HFN := Lib.hid hfd
      obtain ⟨q, hq⟩ : ∃ q, hasX x b = q := ⟨_, rfl⟩
      rw [hq] at HHV
      have HQ := Lib.hid hq
      clear hx hxs hfd hq hbr
      cases q with
      | true =>
        rw [HQ.out] at HFN
        go_wp2_with (go_at_call 17; refine HHV.out.mono ?_; rintro e w5 ⟨rfl, hb5⟩; have HB5 := Lib.hid (HBR.out.trans (hb5.mono HBR.out.size)); clear hb5)
        go_roundw
        case rel => exact ⟨k + 1, rfl, rfl, rfl, by go_num, by omega, Lib.hid (by rw [HFN.out]; rfl), HB5.out⟩
        case measure => simp [intOf]; omega
      | false =>
        rw [HQ.out] at HFN
        have hff : F = (x, -1, true) := by rw [HF2.out, HFN.out]; rfl
        have HFF := Lib.hid hff
        clear hff
        go_wp2_with (go_at_call 17; refine HHV.out.mono ?_; rintro e w5 ⟨rfl, hb5⟩; have HB5 := Lib.hid (HBR.out.trans (hb5.mono HBR.out.size)); clear hb5)
        rw [Exit.noGoto_ret]
        go_ret3
        rw [HFF.out]
        exact ⟨rfl, HON.out.trans (HW4.out.trans (HB5.out.mono (by omega)) |>.mono (by omega))⟩
    · have hnone : T.find? (fun s => !hasX s b) = none := by rw [HFD.out, List.drop_eq_nil_of_le (by omega)]; rfl
      have hf3 : F = match bodF b 0 (body.map LmG.li) with
        | some (s, i) => (s, (i : Int), true)
        | none => (⟨#[]⟩, 0, false) := by rw [HF2.out, hnone]
      have HF3 := Lib.hid hf3
      have hbw : Below (w.heap.size + 1) (w.alloc (.cells #[.int .i64 k0, .string nm, .slice hA head.length hc, .int .i64 ag, .string ofv, .int .i64 lim, .slice bA body.length bc] 25)) wr := HW4.out.trans (hbr.mono (by omega))
      have HBW0 := Lib.hid hbw
      obtain ⟨_, _, _, _, _, _, d6⟩ := box7g_of ((hbw.block w.heap.size (by omega)).trans HBX.out)
      have HSR := Lib.hid (HS4.out.block (hbr.block _ HS4.out.lt))
      obtain ⟨w5, hw5⟩ : ∃ w5, w5 = wr := ⟨_, rfl⟩
      have HW5 := Lib.hid hw5
      have hsz5 : w.heap.size + 2 ≤ wr.heap.size := by have := hbr.size; omega
      clear hnone hf3 hbr hbw hw5
      generalize (w.alloc (.cells #[.int .i64 k0, .string nm, .slice hA head.length hc, .int .i64 ag, .string ofv, .int .i64 lim, .slice bA body.length bc] 25)) = Z0 at *
      go_wp2
      go_step3
      go_wp2
      go_loopw [2, 3, 4, 33] (fun v2 v3 v4 i wx => ∃ k : Nat, v2 = .string ⟨#[]⟩ ∧ v3 = .int .i64 0 ∧ v4 = .bool false ∧ i = .int .i64 k ∧ k ≤ body.length ∧ Hid (bodF b 0 (body.map LmG.li) = bodF b k ((body.map LmG.li).drop k)) ∧ Below w5.heap.size w5 wx) (fun _ _ _ i _ => body.length - (intOf i).toNat)
      case atStart => exact ⟨0, rfl, rfl, rfl, rfl, Nat.zero_le _, Lib.hid rfl, by rw [HW5.out]; exact Below.refl _ _⟩
      case round =>
        obtain ⟨k, rfl, rfl, rfl, rfl, hk, HFD, hbx⟩ := hrel
        have HBX5 := Lib.hid hbx
        have hszx : w.heap.size + 2 ≤ wr.heap.size := by have := hbx.size; have := HW5.out; subst this; omega
        have hw0 : Below (w.heap.size + 1) Z0 wr := by
          have h1 := HBW0.out
          rw [← HW5.out] at h1
          exact h1.trans (hbx.mono (by have := h1.size; rw [hz0] at this; omega))
        have HSX := Lib.hid (show SetG wr (w.heap.size + 1) b b.length from by
          have h1 := HSR.out
          rw [← HW5.out] at h1
          exact h1.block (hbx.block _ h1.lt))
        by_cases hlt : k < body.length
        · obtain ⟨x, hx⟩ : ∃ x, body[k]? = some x := ⟨_, List.getElem?_eq_getElem hlt⟩
          have hxm := List.mem_of_getElem? hx
          have hlx : (body.map LmG.li)[k]? = some x.li := by rw [List.getElem?_map, hx]; rfl
          have hdr : (body.map LmG.li).drop k = x.li :: (body.map LmG.li).drop (k + 1) := by
            obtain ⟨h1, h2⟩ := List.getElem?_eq_some_iff.1 hlx
            rw [List.drop_eq_getElem_cons h1, h2]
          have HDR := Lib.hid hdr
          have hok := HOK0.out.below (by rw [hz0]; exact hw0)
          obtain ⟨a, rfl, a0, a1, a2, a3⟩ := els_L hok.2.1 hx
          have hx5 := HSM.out.2.2.2.2 x hxm
          have HX5 := Lib.hid hx5.2
          have hx5l := hx5.1
          have HT6 := Lib.hid ((HOK0.out.2.2) x hxm)
          have HW0 := Lib.hid hw0
          obtain ⟨yn, ys, yA, yc, yargs, yo⟩ := x
          have hx5l : yargs.length ≤ 5000 := hx5l
          have HX5 : Hid (∀ t ∈ yargs, t.s.size ≤ maxLen) := HX5
          have HT6 : Hid (ElsAt TmP.cells 6 Z0 yA yargs) := HT6
          simp only at a0 a1 a2 a3
          have HDR : Hid ((body.map LmG.li).drop k = ⟨yn, ys, yargs, yo⟩ :: (body.map LmG.li).drop (k + 1)) := HDR
          obtain ⟨w6, hw6⟩ : ∃ w6, w6 = wr := ⟨_, rfl⟩
          have HW6 := Lib.hid hw6
          clear hbx hx hxm hlx hdr hok hx5 hw0 hw6
          go_wp2
          go_loopw [2, 3, 4, 41] (fun v2 v3 v4 i wx => ∃ j : Nat, v2 = .string ⟨#[]⟩ ∧ v3 = .int .i64 0 ∧ v4 = .bool false ∧ i = .int .i64 j ∧ j ≤ yargs.length ∧ Hid (yargs.find? (badT b) = (yargs.drop j).find? (badT b)) ∧ Below w6.heap.size w6 wx) (fun _ _ _ i _ => yargs.length - (intOf i).toNat)
          case atStart => exact ⟨0, rfl, rfl, rfl, rfl, Nat.zero_le _, Lib.hid rfl, by first | (rw [HW6.out]; exact one_new _ _) | (rw [HW6.out]; exact Below.refl _ _)⟩
          case round =>
            obtain ⟨j, rfl, rfl, rfl, rfl, hj, HFJ, hbj⟩ := hrel
            have HBJ := Lib.hid hbj
            have HBK := Lib.hid (show Below w5.heap.size w5 wr from by
              have h1 := HBX5.out
              rw [← HW6.out] at h1
              exact h1.trans (hbj.mono h1.size))
            have hw0 : Below (w.heap.size + 1) Z0 wr := by
              have h1 := HW0.out
              rw [← HW6.out] at h1
              exact h1.trans (hbj.mono (by have := h1.size; rw [hz0] at this; omega))
            have hszj : w.heap.size + 2 ≤ wr.heap.size := by have := hbj.size; rw [HW6.out] at this; omega
            have HW0J := Lib.hid hw0
            have hset := show SetG wr (w.heap.size + 1) b b.length from by
              have h1 := HSX.out
              rw [← HW6.out] at h1
              exact h1.block (hbj.block _ h1.lt)
            have HSET := Lib.hid hset
            by_cases hlt2 : j < yargs.length
            · obtain ⟨y, hy⟩ : ∃ y, yargs[j]? = some y := ⟨_, List.getElem?_eq_getElem hlt2⟩
              have hta := HT6.out.below (by rw [hz0]; exact hw0)
              obtain ⟨a', rfl, b0, b1, b2, b3, b4, b5⟩ := els_T hta hy
              have hys := HX5.out y (List.mem_of_getElem? hy)
              have hfd := find_drop (badT b) yargs j y hy
              rw [← HFJ.out] at hfd
              have HFN := Lib.hid hfd
              have HIV := Lib.hid (g_isVar y)
              obtain ⟨p, hp⟩ : ∃ p, isV y = p := ⟨_, rfl⟩
              rw [hp] at HIV
              obtain ⟨q, hq⟩ : ∃ q, hasX y.s b = q := ⟨_, rfl⟩
              have hbad : badT b y = (p && !q) := by unfold badT; rw [hp, hq]
              rw [hbad] at HFN
              obtain ⟨zs, za, ⟨zk, zf, zn, zt⟩⟩ := y
              simp only at b0 b1 b2 b3 b4 b5
              have HIV : Hid (∀ W, Calls Try.prog 18 #[.agg #[.string zs, .bool za, .int .i64 zk, .bool zf, .int .i64 zn, .string zt]] W fun e w' => e = .returned (.bool p) ∧ Below W.heap.size W w') := HIV
              have hq' : hasX zs b = q := hq
              have hys' : zs.size ≤ maxLen := hys
              have HHV : Hid (∀ W, Below wr.heap.size wr W → Calls Try.prog 17 #[.map (some (w.heap.size + 1)), .string zs] W fun e W' => e = .returned (.bool q) ∧ Below W.heap.size W W') := Lib.hid fun W hW => by rw [← hq']; exact g_have (HSET.out.block (hW.block _ HSET.out.lt)) zs hys'
              clear hbj hw0 hset hta hy hys hfd hp hq hbad hq' hys'
              cases p with
              | false =>
                have HFN2 : Hid (yargs.find? (badT b) = (yargs.drop (j + 1)).find? (badT b)) := Lib.hid (by rw [HFN.out, Bool.false_and]; rfl)
                go_wp2_with (go_at_call 18; refine (HIV.out _).mono ?_; rintro e w8 ⟨rfl, hb8⟩; have HB8 := Lib.hid ((one_new wr (.cells #[.string zs, .bool za, .int .i64 zk, .bool zf, .int .i64 zn, .string zt] 38)).trans (hb8.mono (by simp))); have HM8 := Lib.hid ((hb8.block wr.heap.size (by simp)).trans (heap_alloc_new wr (.cells #[.string zs, .bool za, .int .i64 zk, .bool zf, .int .i64 zn, .string zt] 38))); have m0 := cell_of_row _ wr.heap.size 0 _ _ (0, 0) HM8.out; clear hb8)
                go_roundw
                case rel => exact ⟨j + 1, rfl, rfl, rfl, by go_num, by omega, HFN2, HBJ.out.trans (HB8.out.mono HBJ.out.size)⟩
                case measure => simp [intOf]; omega
              | true =>
                cases q with
                | true =>
                  have HFN2 : Hid (yargs.find? (badT b) = (yargs.drop (j + 1)).find? (badT b)) := Lib.hid (by rw [HFN.out]; rfl)
                  go_wp2_with (first | (go_at_call 18; refine (HIV.out _).mono ?_; rintro e w8 ⟨rfl, hb8⟩; have HB8 := Lib.hid ((one_new wr (.cells #[.string zs, .bool za, .int .i64 zk, .bool zf, .int .i64 zn, .string zt] 38)).trans (hb8.mono (by simp))); have HM8 := Lib.hid ((hb8.block wr.heap.size (by simp)).trans (heap_alloc_new wr (.cells #[.string zs, .bool za, .int .i64 zk, .bool zf, .int .i64 zn, .string zt] 38))); have m0 := cell_of_row _ wr.heap.size 0 _ _ (0, 0) HM8.out; clear hb8) | (go_at_call 17; refine (HHV.out _ HB8.out).mono ?_; rintro e w9 ⟨rfl, hb9⟩; have HB9 := Lib.hid (HB8.out.trans (hb9.mono HB8.out.size)); have k0' := cell_of_row _ wr.heap.size 0 _ _ (0, 0) ((hb9.block wr.heap.size (Array.getElem?_eq_some_iff.1 HM8.out).1).trans HM8.out); clear hb9))
                  go_roundw
                  case rel => exact ⟨j + 1, rfl, rfl, rfl, by go_num, by omega, HFN2, HBJ.out.trans (HB9.out.mono HBJ.out.size)⟩
                  case measure => simp [intOf]; omega
                | false =>
                  have hff : F = (zs, (k : Int), true) := by
                    rw [HF3.out, HFD.out, HDR.out, bodF_hit b k _ _ ⟨zs, za, ⟨zk, zf, zn, zt⟩⟩ (by rw [HFN.out]; rfl)]
                  have HFF := Lib.hid hff
                  clear hff
                  go_wp2_with (first | (go_at_call 18; refine (HIV.out _).mono ?_; rintro e w8 ⟨rfl, hb8⟩; have HB8 := Lib.hid ((one_new wr (.cells #[.string zs, .bool za, .int .i64 zk, .bool zf, .int .i64 zn, .string zt] 38)).trans (hb8.mono (by simp))); have HM8 := Lib.hid ((hb8.block wr.heap.size (by simp)).trans (heap_alloc_new wr (.cells #[.string zs, .bool za, .int .i64 zk, .bool zf, .int .i64 zn, .string zt] 38))); have m0 := cell_of_row _ wr.heap.size 0 _ _ (0, 0) HM8.out; clear hb8) | (go_at_call 17; refine (HHV.out _ HB8.out).mono ?_; rintro e w9 ⟨rfl, hb9⟩; have HB9 := Lib.hid (HB8.out.trans (hb9.mono HB8.out.size)); have k0' := cell_of_row _ wr.heap.size 0 _ _ (0, 0) ((hb9.block wr.heap.size (Array.getElem?_eq_some_iff.1 HM8.out).1).trans HM8.out); clear hb9))
                  rw [Exit.noGoto_ret]
                  go_ret3
                  rw [HFF.out]
                  exact ⟨rfl, HON.out.trans ((HW0J.out.trans (HB9.out.mono (by omega))).mono (by omega))⟩
            · have hno : yargs.find? (badT b) = none := by rw [HFJ.out, List.drop_eq_nil_of_le (by omega)]; rfl
              have hnx : bodF b 0 (body.map LmG.li) = bodF b (k + 1) ((body.map LmG.li).drop (k + 1)) := by rw [HFD.out, HDR.out, bodF_skip b k _ _ hno]
              have HNX := Lib.hid hnx
              clear hbj hw0 hset hno hnx
              go_wp2
              go_roundw
              case rel => exact ⟨k + 1, rfl, rfl, rfl, by go_num, by omega, HNX, HBK.out⟩
              case measure => simp [intOf]; omega
        · have hff : F = (⟨#[]⟩, 0, false) := by
            rw [HF3.out, HFD.out, List.drop_eq_nil_of_le (by rw [List.length_map]; omega)]
            rfl
          have HFF := Lib.hid hff
          have HW0 := Lib.hid hw0
          clear hff hbx hw0
          go_wp2
          rw [Exit.noGoto_ret]
          go_ret3
          rw [HFF.out]
          exact ⟨rfl, HON.out.trans (HW0.out.mono (by omega))⟩
end Go.Proofs.Ytmkejlhkipngnaa
