/-
  An index in memory, put together anew behind a shelf that went, or that is as it was.
  No condition.
  put of package index where no row of the key is behind it, or the bag refuses: a shelf that goes, and none that comes.
  Condition: sums of counts have 64 bits.
-/
import Derived.Test.YtmdkjhnafnblkaaIxh
namespace Go.Proofs.Ytmdkjhnafnblkaa
open Go.RowKit Go.Maps

/-- The shelves without the one of a key. -/
def delS (S : List Sh) (key : ByteArray) : List Sh := S.filter fun h => !decide (h.key = key)
theorem delS_none {S : List Sh} {key : ByteArray} (h : findK S key = none) : delS S key = S := by
  unfold delS
  refine List.filter_eq_self.2 ?_
  intro a ha
  have := List.find?_eq_none.1 h a ha
  simpa using this
theorem delS_find (S : List Sh) (key k : ByteArray) : findK (delS S key) k = if k = key then none else findK S k := by
  unfold findK delS
  induction S with
  | nil => simp
  | cons a S ih =>
    by_cases e : a.key = key
    · rw [List.filter_cons_of_neg (by simp [e]), ih, List.find?_cons]
      by_cases e2 : k = key
      · rw [if_pos e2, if_pos e2]
      · rw [if_neg e2, if_neg e2]
        have h3 : decide (a.key = k) = false := by rw [e]; simpa using fun h => e2 h.symm
        rw [h3]
    · rw [List.filter_cons_of_pos (by simp [e]), List.find?_cons, List.find?_cons, ih]
      by_cases e2 : k = key
      · have h3 : decide (a.key = k) = false := by rw [e2]; simpa using e
        simp only [h3, if_pos e2]
      · simp only [if_neg e2]
theorem delS_len : ∀ (S : List Sh) (key : ByteArray), S.Pairwise (fun a b => a.key ≠ b.key) → (delS S key).length + (if (findK S key).isSome = true then 1 else 0) = S.length
  | [], _, _ => rfl
  | a :: S, key, hn => by
    obtain ⟨h1, h2⟩ := List.pairwise_cons.1 hn
    have ih := delS_len S key h2
    unfold delS findK at ih ⊢
    by_cases e : a.key = key
    · rw [List.filter_cons_of_neg (by simp [e]), List.find?_cons]
      have h3 : S.find? (fun h => decide (h.key = key)) = none := by
        refine List.find?_eq_none.2 ?_
        intro i hi
        have := h1 i hi
        rw [e] at this
        simpa using this.symm
      rw [h3] at ih
      have h4 : decide (a.key = key) = true := by simpa using e
      rw [h4]
      simp at ih ⊢
      omega
    · rw [List.filter_cons_of_pos (by simp [e]), List.find?_cons]
      have h4 : decide (a.key = key) = false := by simpa using e
      rw [h4]
      dsimp only
      rw [List.length_cons, List.length_cons]
      omega
theorem delS_sub (S : List Sh) (key : ByteArray) : ((delS S key).flatMap fun h => [h.s, h.g]).Sublist (S.flatMap fun h => [h.s, h.g]) := by
  unfold delS
  induction S with
  | nil => simp
  | cons a S ih =>
    rw [List.filter_cons]
    split
    · rw [List.flatMap_cons, List.flatMap_cons]
      exact (List.Sublist.refl _).append ih
    · rw [List.flatMap_cons]
      exact ih.trans (List.sublist_append_right _ _)
theorem mus_sub (x b : Nat) (S : List Sh) (key : ByteArray) : (mus x b (delS S key)).Sublist (mus x b S) := by
  unfold mus
  exact ((delS_sub S key).cons_cons _).cons_cons _
theorem RelD.del {D : DataW Value} {S : List Sh} {key : ByteArray} (r : RelD D S) (ht : Tidy D) : RelD (D.del (kl key)) (delS S key) := by
  obtain ⟨r1, r2, r3, r4⟩ := r
  refine ⟨fun b => ?_, fun b => ?_, ?_, r4.filter _⟩
  · rw [delS_find]
    by_cases e : b = key
    · subst e; rw [if_pos rfl, atKey_del_same]; rfl
    · rw [if_neg e, atKey_del_other (fun e2 => e (kl_inj e2)), r1 b]
  · rw [delS_find]
    by_cases e : b = key
    · subst e; rw [if_pos rfl, has_del_same]; rfl
    · rw [if_neg e, has_del_other (fun e2 => e (kl_inj e2)), r2 b]
  · have h1 := size_del (k := kl key) ht
    have h2 := delS_len S key r4
    rw [r2 key, r3] at h1
    omega

theorem asm_del {w w5 : World} {x b : Nat} {D : DataW Value} {A : Option Addr} {c : Nat} {cols : List Int} {S : List Sh} (key : ByteArray) (M : List Nat) (hI : IdxB w x b D A c cols S) (om : OnlyM M w w5)
    (hM : ∀ k ∈ M, k = b ∨ ∃ h ∈ S, h.key = key ∧ (k = h.s ∨ k = h.g)) (ho : w5.ownsMap Try.prog 9 Rp b S.length (D.del (kl key))) :
    IdxB w5 x b (D.del (kl key)) A c cols (delS S key) := by
  obtain ⟨h1, h2, h3, h4, h5, h6, h7⟩ := hI
  obtain ⟨hxb, hap, hnd⟩ := mus_x h5
  have hMm : ∀ k ∈ M, k ∈ mus x b S := by
    intro k hk
    rcases hM k hk with rfl | ⟨h, hh, _, rfl | rfl⟩
    · simp [mus]
    · exact (mus_mem hh).1
    · exact (mus_mem hh).2
  have kq : KeepQ (Qm x b S) w w5 := om.keepQ (fun k hq hk => hq (hMm k hk))
  have hq : ∀ k, k < w5.heap.size → Qm x b S k → Qm x b (delS S key) k := fun k _ hq hm => hq ((mus_sub x b S key).subset hm)
  have rd := h4.del (key := key) (h3.tidy lawK)
  have hxM : x ∉ M := by
    intro hm
    rcases hM x hm with e | ⟨h, hh, _, e | e⟩
    · exact hxb e
    · exact (hap h hh).1 e.symm
    · exact (hap h hh).2.1 e.symm
  have hz : Maps.size (D.del (kl key)) = (delS S key).length := rd.2.2.1
  refine ⟨(om.2 x (h6 x (by simp [mus])) hxM).trans h1, h2.keep kq (fun k hk hq hm => hq ((mus_sub x b S key).subset hm)), ?_, rd, (mus_sub x b S key).nodup h5, fun k hk => Nat.lt_of_lt_of_le (h6 k ((mus_sub x b S key).subset hk)) om.1.size, ?_⟩
  · have := ownsMap_tight ho
    rw [hz] at this
    exact this
  · intro i hi
    unfold delS at hi
    obtain ⟨hi, hk⟩ := List.mem_filter.1 hi
    have hk : i.key ≠ key := by simpa using hk
    obtain ⟨a1, a2⟩ := h7 i hi
    have hnb : ∀ j ∈ M, j ≠ i.s ∧ j ≠ i.g := by
      intro j hj
      obtain ⟨n1, n2, n3, n4, n5⟩ := hap i hi
      rcases hM j hj with rfl | ⟨h, hh, hkey, e⟩
      · exact ⟨n3.symm, n4.symm⟩
      · obtain ⟨m1, m2, m3, m4⟩ := (sh_apart S hnd h hh i hi).resolve_left (fun he => hk (by rw [he, hkey]))
        rcases e with rfl | rfl
        · exact ⟨m1.symm, m3.symm⟩
        · exact ⟨m2.symm, m4.symm⟩
    exact ⟨(om.2 i.s (h6 _ (mus_mem hi).1) (fun hm => (hnb _ hm).1 rfl)).trans a1, (a2.keep kq (om.2 i.g (h6 _ (mus_mem hi).2) (fun hm => (hnb _ hm).2 rfl))).imp9 hq⟩

/-- A bag that was written and has the rows that it had. -/
theorem asm_same {w w5 : World} {x b : Nat} {D : DataW Value} {A : Option Addr} {c : Nat} {cols : List Int} {S : List Sh} (h : Sh) (hI : IdxB w x b D A c cols S) (hm : h ∈ S) (om : OnlyM [h.g] w w5) (hbag : BagL w5 (Qm x b S) h.g h.l) : IdxB w5 x b D A c cols S := by
  obtain ⟨h1, h2, h3, h4, h5, h6, h7⟩ := hI
  obtain ⟨hxb, hap, hnd⟩ := mus_x h5
  obtain ⟨hh1, hh2, hh3, hh4, hh5⟩ := hap h hm
  have kq : KeepQ (Qm x b S) w w5 := om.keepQ (fun k hq hk => hq (by rw [List.mem_singleton.1 hk]; exact (mus_mem hm).2))
  have hb' : ∀ k, k < w.heap.size → k ≠ h.g → w5.heap[k]? = w.heap[k]? := fun k hk n => om.2 k hk (by simp [n])
  refine ⟨(hb' x (h6 x (by simp [mus])) hh2.symm).trans h1, h2.keep kq (fun _ _ h => h), ownsMap_block h3 (hb' b (h6 b (by simp [mus])) hh4.symm), h4, h5, fun k hk => Nat.lt_of_lt_of_le (h6 k hk) om.1.size, ?_⟩
  intro i hi
  obtain ⟨a1, a2⟩ := h7 i hi
  obtain ⟨n1, n2, n3, n4, n5⟩ := hap i hi
  rcases sh_apart S hnd h hm i hi with e | ⟨m1, m2, m3, m4⟩
  · subst e
    exact ⟨(hb' i.s (h6 _ (mus_mem hi).1) n5).trans a1, hbag⟩
  · exact ⟨(hb' i.s (h6 _ (mus_mem hi).1) m2).trans a1, a2.keep kq (hb' i.g (h6 _ (mus_mem hi).2) m4)⟩

theorem addL_err (x : List V) (k : Int) (l : List En) : addL x k l = (l, 2) ∨ addL x k l = (l, 10) ∨ (addL x k l).2 = 0 := by
  unfold addL
  split
  · exact .inl rfl
  · split
    · exact .inr (.inl rfl)
    · exact .inr (.inr rfl)

set_option maxRecDepth 100000 in
set_option maxHeartbeats 4000000 in
/-- No shelf of the key, and the bag refuses. -/
theorem i_put_no (x b : Nat) (D : DataW Value) (A : Option Addr) (c : Nat) (cols : List Int) (S : List Sh) (key : ByteArray) (R : Nat → Prop) (v : Value) (xs : List V) (k : Int) (r : Int) (w : World) (hks : key.size ≤ maxLen) (hI : IdxB w x b D A c cols S) (hf : findK S key = none)
    (hx : IsRow w R v xs) (hk : -9223372036854775808 ≤ k ∧ k ≤ 9223372036854775807) (ha : addL xs k [] = ([], r)) (hr : r = 2 ∨ r = 10) :
    Calls Try.prog 89 #[.pointer (some ⟨x, 0, none⟩), .string key, v, .int .i64 k] w fun e w' => e = .returned (.int .i64 r) ∧ Below w.heap.size w w' := by
  have HX := Lib.hid hx
  have hlk := look_S hI key hks
  rw [hf] at hlk
  have hlk2 : (Instr.lookup 127 (.map (some b)) (.string key) false).run Try.prog w = .ok (.pointer none) w := hlk
  obtain ⟨i1, -, -, -, -, i6, -⟩ := hI
  have hxl : x < w.heap.size := i6 x (by simp [mus])
  have c1 : w.cell? ⟨x, 1, none⟩ = some (.map (some b)) := cell_of_row w x 1 _ _ _ i1
  obtain ⟨-, Av, cv, hv, -, -⟩ := hx
  obtain ⟨g, hg⟩ : ∃ g, g = w.heap.size := ⟨_, rfl⟩
  obtain ⟨W1, hW1⟩ : ∃ W1, W1 = (w.alloc (.cells #[.pointer none] 231)).alloc (.cells #[.pointer (some ⟨g, 0, none⟩), .int .i64 0] 137) := ⟨_, rfl⟩
  have hb1 : Below w.heap.size w W1 := by rw [hW1]; exact two_new _ _ _
  have hz1 : W1.heap.size = w.heap.size + 2 := by rw [hW1]; simp
  have hbag1 : BagL W1 (fun j => j ≠ g) g [] := by
    have h := (bag_new (fun j => j ≠ g) w).below (one_new _ (.cells #[.pointer (some ⟨g, 0, none⟩), .int .i64 0] 137))
    rw [hW1]
    rw [← hg] at h
    exact h
  have hadd := b_add R v xs k (fun j => j ≠ g) g [] W1 hk (fun j hj => by show j ≠ g; omega) (by simp) (HX.out.below hb1) hbag1 (by simp)
  rw [ha] at hadd
  have HADD := Lib.hid hadd
  have HB1 := Lib.hid hb1
  have HW1 := Lib.hid hW1
  subst hv
  subst hg
  have hne : (r != 0) = true := by rcases hr with rfl | rfl <;> rfl
  clear hbag1 hadd hb1 hW1 hf ha hlk i1 i6 hr hk
  go_enter Try.func89, Try.ntmps89
  go_wp2_with fail
  refine (b_new _).mono ?_
  rintro e w' ⟨rfl, rfl⟩
  go_wp2_with fail
  rw [← HW1.out]
  refine HADD.out.mono ?_
  rintro e w2 ⟨rfl, -, ho2⟩
  have HB2 := Lib.hid (HB1.out.trans ho2.1)
  clear ho2
  dsimp only
  go_wp2
  go_ret
  exact ⟨rfl, HB2.out⟩

set_option maxRecDepth 100000 in
set_option maxHeartbeats 4000000 in
/-- A shelf of the key, and the bag refuses. -/
theorem i_put_noh (x b : Nat) (D : DataW Value) (A : Option Addr) (c : Nat) (cols : List Int) (S : List Sh) (key : ByteArray) (s g : Nat) (tog : Int) (l : List En) (R : Nat → Prop) (v : Value) (xs : List V) (k : Int) (r : Int) (w : World) (hks : key.size ≤ maxLen) (hI : IdxB w x b D A c cols S) (hf : findK S key = some ⟨key, s, g, tog, l⟩)
    (hx : IsRow w R v xs) (hk : -9223372036854775808 ≤ k ∧ k ≤ 9223372036854775807) (ha : addL xs k l = (l, r)) (hr : r = 2 ∨ r = 10) (hll : l.length ≤ 800000) :
    Calls Try.prog 89 #[.pointer (some ⟨x, 0, none⟩), .string key, v, .int .i64 k] w fun e w' => e = .returned (.int .i64 r) ∧ OnlyM (mus x b S) w w' ∧ IdxB w' x b D A c cols S := by
  obtain ⟨hmem, _⟩ := find_mem hf
  obtain ⟨hsh, hbag⟩ := hI.2.2.2.2.2.2 _ hmem
  have HI := Lib.hid hI
  have HM := Lib.hid hmem
  have hlk := look_S hI key hks
  rw [hf] at hlk
  have hlk2 : (Instr.lookup 127 (.map (some b)) (.string key) false).run Try.prog w = .ok (.pointer (some ⟨s, 0, none⟩)) w := hlk
  obtain ⟨i1, -, -, -, i5, i6, -⟩ := hI
  have hxl : x < w.heap.size := i6 x (by simp [mus])
  have hsl : s < w.heap.size := i6 s (mus_mem hmem).1
  have c1 : w.cell? ⟨x, 1, none⟩ = some (.map (some b)) := cell_of_row w x 1 _ _ _ i1
  have e0 : w.cell? ⟨s, 0, none⟩ = some (.pointer (some ⟨g, 0, none⟩)) := cell_of_row w s 0 _ _ _ hsh
  obtain ⟨-, Av, cv, hv, -, -⟩ := id hx
  have hq1 : ∀ j, w.heap.size ≤ j → Qm x b S j := fun j hj hm => by have := i6 j hm; omega
  have hnq : ¬ Qm x b S g := fun h => h (mus_mem hmem).2
  dsimp only at hbag
  have hadd := b_add R v xs k (Qm x b S) g l w hk hq1 hnq hx hbag hll
  rw [ha] at hadd
  have HADD := Lib.hid hadd
  have hne : (r != 0) = true := by rcases hr with rfl | rfl <;> rfl
  subst hv
  clear hq1 hbag hnq hadd hsh hf ha hlk i1 i5 i6 hx hmem hr hk
  go_enter Try.func89, Try.ntmps89
  go_wp2_with fail
  refine HADD.out.mono ?_
  rintro e w2 ⟨rfl, hbag2, ho2⟩
  have HBAG2 := Lib.hid hbag2
  have HO2 := Lib.hid ho2
  clear hbag2 ho2
  dsimp only
  go_wp2
  go_ret
  exact ⟨rfl, OnlyM.of_only HO2.out (mus_mem HM.out).2, asm_same ⟨key, s, g, tog, l⟩ HI.out HM.out (OnlyM.of_only HO2.out (by simp)) HBAG2.out⟩

set_option maxRecDepth 100000 in
set_option maxHeartbeats 4000000 in
/-- No shelf of the key, and no row comes. -/
theorem i_put_zero (x b : Nat) (D : DataW Value) (A : Option Addr) (c : Nat) (cols : List Int) (S : List Sh) (key : ByteArray) (R : Nat → Prop) (v : Value) (xs : List V) (k : Int) (w : World) (hks : key.size ≤ maxLen) (hI : IdxB w x b D A c cols S) (hf : findK S key = none)
    (hx : IsRow w R v xs) (ha : addL xs k [] = ([], 0)) :
    Calls Try.prog 89 #[.pointer (some ⟨x, 0, none⟩), .string key, v, .int .i64 k] w fun e w' => e = .returned (.int .i64 0) ∧ OnlyM (mus x b S) w w' ∧ ∃ D', IdxB w' x b D' A c cols S := by
  obtain ⟨k1, k2⟩ := addL_wide Good.nil ha
  have HI := Lib.hid hI
  have HF := Lib.hid hf
  have HX := Lib.hid hx
  have hlk := look_S hI key hks
  rw [hf] at hlk
  have hlk2 : (Instr.lookup 127 (.map (some b)) (.string key) false).run Try.prog w = .ok (.pointer none) w := hlk
  obtain ⟨i1, -, -, -, i5, i6, -⟩ := hI
  have hxl : x < w.heap.size := i6 x (by simp [mus])
  have hbl : b < w.heap.size := i6 b (by simp [mus])
  have c1 : w.cell? ⟨x, 1, none⟩ = some (.map (some b)) := cell_of_row w x 1 _ _ _ i1
  obtain ⟨-, Av, cv, hv, -, -⟩ := hx
  obtain ⟨g, hg⟩ : ∃ g, g = w.heap.size := ⟨_, rfl⟩
  obtain ⟨W1, hW1⟩ : ∃ W1, W1 = (w.alloc (.cells #[.pointer none] 231)).alloc (.cells #[.pointer (some ⟨g, 0, none⟩), .int .i64 0] 137) := ⟨_, rfl⟩
  have hb1 : Below w.heap.size w W1 := by rw [hW1]; exact two_new _ _ _
  have hz1 : W1.heap.size = w.heap.size + 2 := by rw [hW1]; simp
  have hsh1 : W1.heap[w.heap.size + 1]? = some (.cells #[.pointer (some ⟨g, 0, none⟩), .int .i64 0] 137 (0, 0)) := by
    have h := (Go.MapKept.heap_alloc (w.alloc (.cells #[.pointer none] 231)) (.cells #[.pointer (some ⟨g, 0, none⟩), .int .i64 0] 137)).1
    rw [World.size_alloc] at h
    rw [hW1]
    exact h
  have hbag1 : BagL W1 (fun j => j ≠ g ∧ j ≠ g + 1) g [] := by
    have h := (bag_new (fun j => j ≠ g ∧ j ≠ g + 1) w).below (one_new _ (.cells #[.pointer (some ⟨g, 0, none⟩), .int .i64 0] 137))
    rw [hW1]
    rw [← hg] at h
    exact h
  have hadd := b_add R v xs k (fun j => j ≠ g ∧ j ≠ g + 1) g [] W1 ⟨by omega, by omega⟩ (fun j hj => by show j ≠ g ∧ j ≠ g + 1; omega) (by simp) (HX.out.below hb1) hbag1 (by simp)
  rw [ha] at hadd
  have HADD := Lib.hid hadd
  have HB1 := Lib.hid hb1
  have HSH1 := Lib.hid hsh1
  have HW1 := Lib.hid hW1
  subst hv
  subst hg
  clear hbag1 hadd hb1 hsh1 hW1 hf ha hlk i1 i5 i6
  go_enter Try.func89, Try.ntmps89
  go_wp2_with fail
  refine (b_new _).mono ?_
  rintro e w' ⟨rfl, rfl⟩
  go_wp2_with fail
  rw [← HW1.out]
  refine HADD.out.mono ?_
  rintro e w2 ⟨rfl, hbag2, ho2⟩
  dsimp only at hbag2
  have hgs : w.heap.size ≠ w.heap.size + 1 := by omega
  have hsh2 : w2.heap[w.heap.size + 1]? = some (.cells #[.pointer (some ⟨w.heap.size, 0, none⟩), .int .i64 0] 137 (0, 0)) := (ho2.2 (w.heap.size + 1) (by omega) hgs.symm).trans HSH1.out
  have s0 : w2.cell? ⟨w.heap.size + 1, 0, none⟩ = some (.pointer (some ⟨w.heap.size, 0, none⟩)) := cell_of_row w2 (w.heap.size + 1) 0 _ _ _ hsh2
  have s1 : w2.cell? ⟨w.heap.size + 1, 1, none⟩ = some (.int .i64 0) := cell_of_row w2 (w.heap.size + 1) 1 _ _ _ hsh2
  have s2 : w2.frozen? ⟨w.heap.size + 1, 1, none⟩ = false := frozen_of_row w2 (w.heap.size + 1) 1 _ _ hsh2
  obtain ⟨W3, hW3⟩ : ∃ W3, W3 = w2.setCell ⟨w.heap.size + 1, 1, none⟩ (.int .i64 k) := ⟨_, rfl⟩
  have hsh3 : W3.heap[w.heap.size + 1]? = some (.cells #[.pointer (some ⟨w.heap.size, 0, none⟩), .int .i64 k] 137 (0, 0)) := by rw [hW3]; exact heap_setCell_same w2 (w.heap.size + 1) 1 _ _ _ hsh2
  have o3 : OnlyM [w.heap.size + 1] w2 W3 := by rw [hW3]; exact only_cell _
  have OM3 := Lib.hid ((OnlyM.of_below (M := []) HB1.out).trans ((OnlyM.of_only (M := [w.heap.size, w.heap.size + 1]) ho2 (by simp)).trans o3 (fun j hj _ => by simp at hj; simp [hj])) (fun j hj hl => by simp at hj; omega))
  have hbag3 : BagL W3 (fun j => j ≠ w.heap.size ∧ j ≠ w.heap.size + 1) w.heap.size [] := hbag2.keep (o3.keepQ (fun j hq hm => hq.2 (List.mem_singleton.1 hm))) (o3.2 w.heap.size hbag2.lt (by simp))
  have HBAG3 := Lib.hid hbag3
  have hz3 : W3.heap.size = w2.heap.size := by rw [hW3]; simp [World.setCell]
  have HW3 := Lib.hid hW3
  have hx3 := (OM3.out.2 x hxl (by simp)).trans (show w.heap[x]? = _ from HI.out.1)
  have d1 : W3.cell? ⟨x, 1, none⟩ = some (.map (some b)) := cell_of_row W3 x 1 _ _ _ hx3
  have d0 : W3.cell? ⟨w.heap.size + 1, 0, none⟩ = some (.pointer (some ⟨w.heap.size, 0, none⟩)) := cell_of_row W3 (w.heap.size + 1) 0 _ _ _ hsh3
  have hz2 := ho2.1.size
  have HOWN3 := Lib.hid (ownsMap_block HI.out.2.2.1 (OM3.out.2 b hbl (by simp)))
  clear hbag2 hsh2 hsh3 hW3 hbag3 o3 hx3
  go_wp2_with fail
  rw [← HW3.out]
  refine (b_len _ (some ⟨w.heap.size, 0, none⟩) [] W3 (.inr ⟨w.heap.size, rfl, HBAG3.out⟩)).mono ?_
  rintro e w' ⟨rfl, rfl⟩
  go_wp2_with (at_delete; refine wpList_delete_own _ rfl _ _ 127 9 rfl 134 lawK Try.underlying127 Rp b S.length D rfl HOWN3.out _ (kl key) rfl (Go.WideMaps.keyOf_string_mk Try.underlying9 hks) ?_; intro w5 hown5 hturn5)
  go_ret
  have om5 : OnlyM [b] W3 w5 := OnlyM.grown hturn5.grown (by simp)
  have OM5 : OnlyM [b] w w5 := (show OnlyM [b] w W3 from ⟨OM3.out.1, fun j hj _ => OM3.out.2 j hj (by simp)⟩).trans om5 (fun j hj _ => hj)
  refine ⟨rfl, ⟨OM5.1, fun j hj hn => OM5.2 j hj (fun hm => hn (by rw [List.mem_singleton.1 hm]; simp [mus]))⟩, D.del (kl key), ?_⟩
  have h := asm_del key [b] HI.out OM5 (fun j hj => .inl (List.mem_singleton.1 hj)) hown5
  rw [delS_none HF.out] at h
  exact h

set_option maxRecDepth 100000 in
set_option maxHeartbeats 4000000 in
/-- A shelf of the key, and no row is left. -/
theorem i_put_del (x b : Nat) (D : DataW Value) (A : Option Addr) (c : Nat) (cols : List Int) (S : List Sh) (key : ByteArray) (s g : Nat) (tog : Int) (l : List En) (R : Nat → Prop) (v : Value) (xs : List V) (k : Int) (w : World) (hks : key.size ≤ maxLen) (hI : IdxB w x b D A c cols S) (hf : findK S key = some ⟨key, s, g, tog, l⟩)
    (hx : IsRow w R v xs) (ha : addL xs k l = ([], 0)) (hll : l.length ≤ 800000) (t1 : -4000000000000000000 ≤ tog) (t2 : tog ≤ 4000000000000000000) :
    Calls Try.prog 89 #[.pointer (some ⟨x, 0, none⟩), .string key, v, .int .i64 k] w fun e w' => e = .returned (.int .i64 0) ∧ OnlyM (mus x b S) w w' ∧ ∃ D', IdxB w' x b D' A c cols (delS S key) := by
  obtain ⟨hmem, _⟩ := find_mem hf
  obtain ⟨hsh, hbag⟩ := hI.2.2.2.2.2.2 _ hmem
  have hgd : Good l := hbag.1
  obtain ⟨k1, k2⟩ := addL_wide hgd ha
  have HI := Lib.hid hI
  have HM := Lib.hid hmem
  have hlk := look_S hI key hks
  rw [hf] at hlk
  have hlk2 : (Instr.lookup 127 (.map (some b)) (.string key) false).run Try.prog w = .ok (.pointer (some ⟨s, 0, none⟩)) w := hlk
  obtain ⟨i1, -, -, -, i5, i6, -⟩ := hI
  have hxl : x < w.heap.size := i6 x (by simp [mus])
  have hbl : b < w.heap.size := i6 b (by simp [mus])
  have hsl : s < w.heap.size := i6 s (mus_mem hmem).1
  have hgl : g < w.heap.size := i6 g (mus_mem hmem).2
  obtain ⟨hxb, hap, -⟩ := mus_x i5
  obtain ⟨n1, n2, n3, n4, n5⟩ := hap _ hmem
  dsimp only at n1 n2 n3 n4 n5 hbag
  have c1 : w.cell? ⟨x, 1, none⟩ = some (.map (some b)) := cell_of_row w x 1 _ _ _ i1
  have e0 : w.cell? ⟨s, 0, none⟩ = some (.pointer (some ⟨g, 0, none⟩)) := cell_of_row w s 0 _ _ _ hsh
  obtain ⟨-, Av, cv, hv, -, -⟩ := id hx
  have hq1 : ∀ j, w.heap.size ≤ j → Qm x b S j := fun j hj hm => by have := i6 j hm; omega
  have hnq : ¬ Qm x b S g := fun h => h (mus_mem hmem).2
  have hnqs : ¬ Qm x b S s := fun h => h (mus_mem hmem).1
  have hadd := b_add R v xs k (Qm x b S) g l w ⟨by omega, by omega⟩ hq1 hnq hx hbag hll
  rw [ha] at hadd
  have HADD := Lib.hid hadd
  have HSH := Lib.hid hsh
  have HNS := Lib.hid hnqs
  subst hv
  clear hq1 hbag hnq hnqs hadd hsh hf ha hlk i1 i5 i6 hap hx hmem
  go_enter Try.func89, Try.ntmps89
  go_wp2_with fail
  refine HADD.out.mono ?_
  rintro e w2 ⟨rfl, hbag2, ho2⟩
  dsimp only at hbag2
  have hsh2 : w2.heap[s]? = some (.cells #[.pointer (some ⟨g, 0, none⟩), .int .i64 tog] 137 (0, 0)) := (ho2.2 s hsl n5).trans HSH.out
  have s0 : w2.cell? ⟨s, 0, none⟩ = some (.pointer (some ⟨g, 0, none⟩)) := cell_of_row w2 s 0 _ _ _ hsh2
  have s1 : w2.cell? ⟨s, 1, none⟩ = some (.int .i64 tog) := cell_of_row w2 s 1 _ _ _ hsh2
  have s2 : w2.frozen? ⟨s, 1, none⟩ = false := frozen_of_row w2 s 1 _ _ hsh2
  obtain ⟨W3, hW3⟩ : ∃ W3, W3 = w2.setCell ⟨s, 1, none⟩ (.int .i64 (tog + k)) := ⟨_, rfl⟩
  have hsh3 : W3.heap[s]? = some (.cells #[.pointer (some ⟨g, 0, none⟩), .int .i64 (tog + k)] 137 (0, 0)) := by rw [hW3]; exact heap_setCell_same w2 s 1 _ _ _ hsh2
  have o3 : OnlyM [s] w2 W3 := by rw [hW3]; exact only_cell _
  have OM3 := Lib.hid ((OnlyM.of_only (M := [s, g]) ho2 (by simp)).trans o3 (fun j hj _ => by simp at hj; simp [hj]))
  have hbag3 : BagL W3 (Qm x b S) g [] := hbag2.keep (o3.keepQ (fun j hq hm => HNS.out ((List.mem_singleton.1 hm) ▸ hq))) (o3.2 g hbag2.lt (by simpa using n5.symm))
  have HBAG3 := Lib.hid hbag3
  have HW3 := Lib.hid hW3
  have hx3 := (OM3.out.2 x hxl (by simp [n1.symm, n2.symm])).trans (show w.heap[x]? = _ from HI.out.1)
  have d1 : W3.cell? ⟨x, 1, none⟩ = some (.map (some b)) := cell_of_row W3 x 1 _ _ _ hx3
  have d0 : W3.cell? ⟨s, 0, none⟩ = some (.pointer (some ⟨g, 0, none⟩)) := cell_of_row W3 s 0 _ _ _ hsh3
  have HOWN3 := Lib.hid (ownsMap_block HI.out.2.2.1 (OM3.out.2 b hbl (by simp [n3.symm, n4.symm])))
  have hz3 := OM3.out.1.size
  clear hbag2 hsh2 hsh3 hW3 hbag3 o3 hx3
  go_wp2_with fail
  rw [← HW3.out]
  refine (b_len _ (some ⟨g, 0, none⟩) [] W3 (.inr ⟨g, rfl, HBAG3.out⟩)).mono ?_
  rintro e w' ⟨rfl, rfl⟩
  go_wp2_with (at_delete; refine wpList_delete_own _ rfl _ _ 127 9 rfl 134 lawK Try.underlying127 Rp b S.length D rfl HOWN3.out _ (kl key) rfl (Go.WideMaps.keyOf_string_mk Try.underlying9 hks) ?_; intro w5 hown5 hturn5)
  go_ret
  have om5 : OnlyM [b] W3 w5 := OnlyM.grown hturn5.grown (by simp)
  have OM5 : OnlyM [s, g, b] w w5 := (show OnlyM [s, g, b] w W3 from ⟨OM3.out.1, fun j hj hn => OM3.out.2 j hj (fun hm => hn (by simp at hm; rcases hm with rfl | rfl <;> simp))⟩).trans om5 (fun j hj _ => by simp at hj; simp [hj])
  refine ⟨rfl, ⟨OM5.1, fun j hj hn => OM5.2 j hj (fun hm => hn ?_)⟩, D.del (kl key), asm_del key [s, g, b] HI.out OM5 (fun j hj => ?_) hown5⟩
  · simp at hm
    rcases hm with rfl | rfl | rfl
    · exact (mus_mem HM.out).1
    · exact (mus_mem HM.out).2
    · simp [mus]
  · simp at hj
    rcases hj with rfl | rfl | rfl
    · exact .inr ⟨_, HM.out, rfl, .inl rfl⟩
    · exact .inr ⟨_, HM.out, rfl, .inr rfl⟩
    · exact .inl rfl
end Go.Proofs.Ytmdkjhnafnblkaa
