/-
  An index in memory, put together anew behind a shelf that came, or that has changed.
  No condition.
-/
import Derived.Test.YtmdkjhnafnblkaaIxs
namespace Go.Proofs.Ytmdkjhnafnblkaa
open Go.RowKit Go.Maps

theorem BagL.imp9 {w : World} {Q Q' : Nat → Prop} {g : Nat} {l : List En} (h : BagL w Q g l) (hq : ∀ k, k < w.heap.size → Q k → Q' k) : BagL w Q' g l := by
  obtain ⟨h0, p, t, h1, h2, h3⟩ := h
  exact ⟨h0, p, t, h1, h2, h3.imp hq⟩
theorem sh_apart : ∀ (S : List Sh), (S.flatMap fun h => [h.s, h.g]).Nodup → ∀ h ∈ S, ∀ i ∈ S, i = h ∨ (i.s ≠ h.s ∧ i.s ≠ h.g ∧ i.g ≠ h.s ∧ i.g ≠ h.g)
  | [], _, _, h, _, _ => by cases h
  | a :: S, hn, h, hh, i, hi => by
    rw [List.flatMap_cons, List.nodup_append] at hn
    obtain ⟨_, h2, h3⟩ := hn
    have hs : ∀ j ∈ S, a.s ≠ j.s ∧ a.s ≠ j.g ∧ a.g ≠ j.s ∧ a.g ≠ j.g := fun j hj =>
      ⟨h3 a.s (by simp) j.s (List.mem_flatMap.2 ⟨j, hj, by simp⟩), h3 a.s (by simp) j.g (List.mem_flatMap.2 ⟨j, hj, by simp⟩), h3 a.g (by simp) j.s (List.mem_flatMap.2 ⟨j, hj, by simp⟩), h3 a.g (by simp) j.g (List.mem_flatMap.2 ⟨j, hj, by simp⟩)⟩
    rcases List.mem_cons.1 hh with e1 | hh2
    · rcases List.mem_cons.1 hi with e2 | hi2
      · exact .inl (e2.trans e1.symm)
      · obtain ⟨p1, p2, p3, p4⟩ := hs i hi2
        rw [e1]
        exact .inr ⟨p1.symm, p3.symm, p2.symm, p4.symm⟩
    · rcases List.mem_cons.1 hi with e2 | hi2
      · rw [e2]
        exact .inr (hs h hh2)
      · exact sh_apart S h2 h hh2 i hi2
theorem mus_mem {x b : Nat} {S : List Sh} {h : Sh} (hh : h ∈ S) : h.s ∈ mus x b S ∧ h.g ∈ mus x b S := by
  unfold mus
  exact ⟨List.mem_cons_of_mem _ (List.mem_cons_of_mem _ (List.mem_flatMap.2 ⟨h, hh, by simp⟩)), List.mem_cons_of_mem _ (List.mem_cons_of_mem _ (List.mem_flatMap.2 ⟨h, hh, by simp⟩))⟩
theorem mus_x {x b : Nat} {S : List Sh} (hn : (mus x b S).Nodup) : x ≠ b ∧ (∀ h ∈ S, h.s ≠ x ∧ h.g ≠ x ∧ h.s ≠ b ∧ h.g ≠ b ∧ h.s ≠ h.g) ∧ (S.flatMap fun h => [h.s, h.g]).Nodup := by
  unfold mus at hn
  obtain ⟨h1, h2⟩ := List.nodup_cons.1 hn
  obtain ⟨h3, h4⟩ := List.nodup_cons.1 h2
  refine ⟨fun e => h1 (by rw [e]; simp), fun h hh => ?_, h4⟩
  have m1 : h.s ∈ S.flatMap fun h => [h.s, h.g] := List.mem_flatMap.2 ⟨h, hh, by simp⟩
  have m2 : h.g ∈ S.flatMap fun h => [h.s, h.g] := List.mem_flatMap.2 ⟨h, hh, by simp⟩
  refine ⟨fun e => h1 (by rw [← e]; exact List.mem_cons_of_mem _ m1), fun e => h1 (by rw [← e]; exact List.mem_cons_of_mem _ m2), fun e => h3 (by rw [← e]; exact m1), fun e => h3 (by rw [← e]; exact m2), ?_⟩
  obtain ⟨S1, S2, rfl⟩ := List.append_of_mem hh
  rw [List.flatMap_append, List.flatMap_cons, List.nodup_append] at h4
  have h5 := h4.2.1
  rw [List.nodup_append] at h5
  have h6 := h5.1
  simp at h6
  exact h6
theorem find_mem {S : List Sh} {key : ByteArray} {h : Sh} (hf : findK S key = some h) : h ∈ S ∧ h.key = key := by
  unfold findK at hf
  exact ⟨List.mem_of_find?_eq_some hf, by simpa using List.find?_some hf⟩

theorem mus_snoc (x b : Nat) (S : List Sh) (h : Sh) : mus x b (S ++ [h]) = mus x b S ++ [h.s, h.g] := by simp [mus]
theorem asm_new {w w5 : World} {x b : Nat} {D : DataW Value} {A : Option Addr} {c : Nat} {cols : List Int} {S : List Sh} (h : Sh) (hI : IdxB w x b D A c cols S) (hf : findK S h.key = none) (om : OnlyM [b] w w5)
    (ho : w5.ownsMap Try.prog 9 Rp b (S.length + 1) (D.put (kl h.key) (.held (shP h)))) (hs : w.heap.size ≤ h.s) (hg : w.heap.size ≤ h.g) (hsg : h.s ≠ h.g) (hl1 : h.s < w5.heap.size) (hl2 : h.g < w5.heap.size) (hsh : ShelfAt w5 h) (hbag : BagL w5 (Qm x b (S ++ [h])) h.g h.l) :
    IdxB w5 x b (D.put (kl h.key) (.held (shP h))) A c cols (S ++ [h]) := by
  obtain ⟨h1, h2, h3, h4, h5, h6, h7⟩ := hI
  obtain ⟨hxb, hap, _⟩ := mus_x h5
  have hq : ∀ k, k < w.heap.size → Qm x b S k → Qm x b (S ++ [h]) k := by
    intro k hk hq hm
    rw [mus_snoc, List.mem_append] at hm
    rcases hm with hm | hm
    · exact hq hm
    · simp at hm
      omega
  have kq : KeepQ (Qm x b S) w w5 := om.keepQ (fun k hq hm => hq (by rw [List.mem_singleton.1 hm]; simp [mus]))
  have hb' : ∀ k, k < w.heap.size → k ≠ b → w5.heap[k]? = w.heap[k]? := fun k hk hn => om.2 k hk (by simpa using hn)
  refine ⟨(hb' x (h6 x (by simp [mus])) hxb).trans h1, h2.keep kq hq, by rw [List.length_append]; exact ho, h4.put (h3.tidy lawK) ?_ ?_ ?_ ?_, ?_, ?_, ?_⟩
  · intro k
    unfold findK at hf ⊢
    rw [List.find?_append]
    by_cases e : k = h.key
    · subst e; rw [hf, if_pos rfl]; simp [ptrOf]
    · rw [if_neg e]
      cases hk : S.find? fun i => decide (i.key = k) with
      | none => simp [Ne.symm e, ptrOf]
      | some i => rfl
  · intro k
    unfold findK at hf ⊢
    rw [List.find?_append]
    by_cases e : k = h.key
    · subst e; rw [hf]; simp
    · cases hk : S.find? fun i => decide (i.key = k) with
      | none => simp [Ne.symm e, e]
      | some i => simp
  · rw [hf]; simp
  · refine List.pairwise_append.2 ⟨h4.2.2.2, List.pairwise_singleton _ _, fun a ha d hd => ?_⟩
    rw [List.mem_singleton.1 hd]
    have := List.find?_eq_none.1 hf a ha
    simpa using this
  · rw [mus_snoc, List.nodup_append]
    refine ⟨h5, by simp [hsg], ?_⟩
    intro a ha d hd
    have := h6 a ha
    simp at hd
    omega
  · intro k hk
    rw [mus_snoc, List.mem_append] at hk
    rcases hk with hk | hk
    · exact Nat.lt_of_lt_of_le (h6 k hk) om.1.size
    · simp at hk
      rcases hk with rfl | rfl
      · exact hl1
      · exact hl2
  · intro i hi
    rcases List.mem_append.1 hi with hi | hi
    · obtain ⟨a1, a2⟩ := h7 i hi
      obtain ⟨_, _, n3, n4, _⟩ := hap i hi
      exact ⟨(hb' i.s (h6 _ (mus_mem hi).1) n3).trans a1, (a2.imp9 hq).keep (om.keepQ (fun k hk hm => hk (by rw [List.mem_singleton.1 hm]; simp [mus]))) (hb' i.g (h6 _ (mus_mem hi).2) n4)⟩
    · rw [List.mem_singleton.1 hi]
      exact ⟨hsh, hbag⟩

theorem find_congr9 {α : Type} {p q : α → Bool} : ∀ {l : List α}, (∀ x ∈ l, p x = q x) → l.find? p = l.find? q
  | [], _ => rfl
  | a :: l, h => by
    rw [List.find?_cons, List.find?_cons, h a (List.mem_cons_self ..), find_congr9 fun x hx => h x (List.mem_cons_of_mem _ hx)]
/-- The shelves with one of them changed. -/
def updS (S : List Sh) (h : Sh) : List Sh := S.map fun i => if i.s = h.s then h else i
theorem asm_hit {w w5 : World} {x b : Nat} {D : DataW Value} {A : Option Addr} {c : Nat} {cols : List Int} {S : List Sh} (h h' : Sh) (hI : IdxB w x b D A c cols S) (hf : findK S h.key = some h) (e1 : h'.key = h.key) (e2 : h'.s = h.s) (e3 : h'.g = h.g) (om : OnlyM [h.s, h.g, b] w w5)
    (ho : w5.ownsMap Try.prog 9 Rp b (S.length + 1) (D.put (kl h.key) (.held (shP h)))) (hsh : ShelfAt w5 h') (hbag : BagL w5 (Qm x b S) h'.g h'.l) :
    IdxB w5 x b (D.put (kl h.key) (.held (shP h))) A c cols (updS S h') := by
  obtain ⟨h1, h2, h3, h4, h5, h6, h7⟩ := hI
  obtain ⟨hxb, hap, hnd⟩ := mus_x h5
  obtain ⟨hm, _⟩ := find_mem hf
  have hsame : ∀ i ∈ S, i.s = h'.s → i = h := fun i hi he => (sh_apart S hnd h hm i hi).resolve_right (fun hh => hh.1 (he.trans e2))
  have hmus : mus x b (updS S h') = mus x b S := by
    unfold mus updS
    rw [List.flatMap_map, List.flatMap_def, List.flatMap_def]
    congr 3
    refine List.map_congr_left ?_
    intro i hi
    by_cases e : i.s = h'.s
    · rw [if_pos e, hsame i hi e, e2, e3]
    · rw [if_neg e]
  have hQ : Qm x b (updS S h') = Qm x b S := by unfold Qm; rw [hmus]
  have hfind : ∀ k, findK (updS S h') k = (findK S k).map fun i => if i.s = h'.s then h' else i := by
    intro k
    unfold findK updS
    rw [List.find?_map]
    congr 1
    refine find_congr9 ?_
    intro i hi
    have hk : (if i.s = h'.s then h' else i).key = i.key := by
      by_cases e : i.s = h'.s
      · rw [if_pos e, hsame i hi e, e1]
      · rw [if_neg e]
    simp only [Function.comp, hk]
  have hptr : ∀ k, ptrOf (findK (updS S h') k) = ptrOf (findK S k) := by
    intro k
    rw [hfind]
    cases hk : findK S k with
    | none => rfl
    | some i =>
      simp only [Option.map_some]
      by_cases e : i.s = h'.s
      · rw [if_pos e]
        show shP h' = shP i
        unfold shP
        rw [e]
      · rw [if_neg e]
  have kq : KeepQ (Qm x b S) w w5 := om.keepQ (fun k hq hk => hq (by
    simp at hk
    rcases hk with rfl | rfl | rfl
    · exact (mus_mem hm).1
    · exact (mus_mem hm).2
    · simp [mus]))
  have hb' : ∀ k, k < w.heap.size → k ≠ h.s → k ≠ h.g → k ≠ b → w5.heap[k]? = w.heap[k]? := fun k hk n1 n2 n3 => om.2 k hk (by simp [n1, n2, n3])
  obtain ⟨hh1, hh2, _, _, _⟩ := hap h hm
  have rd := h4.put (S' := updS S h') (h3.tidy lawK) (key := h.key) (p := shP h) ?_ ?_ ?_ ?_
  · have hlen : (updS S h').length = S.length := by simp [updS]
    have hz : Maps.size (D.put (kl h.key) (.held (shP h))) = (updS S h').length := rd.2.2.1
    refine ⟨(hb' x (h6 x (by simp [mus])) hh1.symm hh2.symm hxb).trans h1, by rw [hQ]; exact h2.keep kq (fun _ _ h => h), ?_, rd, by rw [hmus]; exact h5, fun k hk => Nat.lt_of_lt_of_le (h6 k (by rw [← hmus]; exact hk)) om.1.size, ?_⟩
    · have := ownsMap_tight ho
      rw [hz] at this
      exact this
    · intro i hi
      rw [hQ]
      unfold updS at hi
      obtain ⟨j, hj, rfl⟩ := List.mem_map.1 hi
      by_cases e : j.s = h'.s
      · rw [if_pos e]; exact ⟨hsh, hbag⟩
      · rw [if_neg e]
        obtain ⟨a1, a2⟩ := h7 j hj
        obtain ⟨n1, n2, n3, n4⟩ := (sh_apart S hnd h hm j hj).resolve_left (fun he => e (by rw [he, e2]))
        obtain ⟨_, _, n5, n6, _⟩ := hap j hj
        exact ⟨(hb' j.s (h6 _ (mus_mem hj).1) n1 n2 n5).trans a1, a2.keep kq (hb' j.g (h6 _ (mus_mem hj).2) n3 n4 n6)⟩
  · intro k
    rw [hptr]
    by_cases e : k = h.key
    · rw [if_pos e, e, hf]; rfl
    · rw [if_neg e]
  · intro k
    rw [hfind]
    by_cases e : k = h.key
    · rw [e, hf]; simp
    · simp [e]
  · rw [hf]; simp [updS]
  · unfold updS
    refine List.pairwise_map.2 (h4.2.2.2.imp_of_mem ?_)
    intro a d ha hd hne
    have hk : ∀ i ∈ S, (if i.s = h'.s then h' else i).key = i.key := by
      intro i hi
      by_cases e : i.s = h'.s
      · rw [if_pos e, hsame i hi e, e1]
      · rw [if_neg e]
    rw [hk a ha, hk d hd]
    exact hne
end Go.Proofs.Ytmdkjhnafnblkaa
