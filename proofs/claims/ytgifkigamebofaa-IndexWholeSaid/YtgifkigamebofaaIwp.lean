/-
  An index of the program by the first cell and a bag of the document's, side by side, as rows are added to both.
  Condition: no more than two hundred rows, whose numbers have 64 bits.
  Rows in order whose first cells are the same stand together; a key of one cell tells the cell.
  No Go in it.
-/
import Derived.Test.YtgifkigamebofaaIxput
import Derived.Test.YtgifkigamebofaaRaddc
namespace Go.Proofs.Ytgifkigamebofaa
open Go.RowKit Go.Maps

/-! ### what an index has does not lie in the box of a slice -/
def NoInt (w : World) (s : Nat) : Prop := ∀ (p : Addr), p.block = s → ∀ n : Int, w.cell? p ≠ some (.int .i64 n)
theorem noInt_box {w : World} {s : Nat} {t : TypeId} {A : Option Addr} {n c : Nat} (h : Boxed w s t (.slice A n c)) : NoInt w s := by
  intro p hp m he
  have h' : w.heap[s]? = some (.cells #[.slice A n c] t (0, 0)) := h
  unfold World.cell? at he
  rw [hp, h'] at he
  simp only at he
  split at he
  · cases he
  · obtain ⟨b, o, sp⟩ := p
    match o, he with
    | 0, he => simp at he
    | o + 1, he => simp at he
theorem RowQ.no {w : World} {Q : Nat → Prop} {A : Option Addr} {xs : List V} {s : Nat} (h : RowQ w Q A xs) (hs : NoInt w s) : RowQ w (fun k => Q k ∧ k ≠ s) A xs := by
  intro i v hi
  obtain ⟨a, ha, hq, hv⟩ := h i v hi
  exact ⟨a, ha, ⟨hq, fun e => hs _ e _ hv.1⟩, hv⟩
theorem IsRow.no {w : World} {Q : Nat → Prop} {v : Value} {xs : List V} {s : Nat} (h : IsRow w Q v xs) (hs : NoInt w s) : IsRow w (fun k => Q k ∧ k ≠ s) v xs := by
  obtain ⟨h0, A, c, h1, h2, h3⟩ := h
  exact ⟨h0, A, c, h1, h2, h3.no hs⟩
theorem IntsQ.no {w : World} {Q : Nat → Prop} {A : Option Addr} {zs : List Int} {s : Nat} (h : IntsQ w Q A zs) (hs : NoInt w s) : IntsQ w (fun k => Q k ∧ k ≠ s) A zs := by
  intro i z hi
  obtain ⟨a, ha, hq, hv⟩ := h i z hi
  exact ⟨a, ha, ⟨hq, fun e => hs _ e _ hv⟩, hv⟩
theorem TreeAt.no {w : World} {Q : Nat → Prop} {s : Nat} (hs : NoInt w s) : ∀ (t : Tr) (p : Option Addr), TreeAt w Q p t → TreeAt w (fun k => Q k ∧ k ≠ s) p t
  | .nil, _, h => h
  | .node r m l h, p, ht => by
    obtain ⟨b, pl, ph, e, ⟨n1, n2, ⟨v, n3, n4⟩, n5, n6, n7, n8⟩, hl, hh⟩ := ht
    exact ⟨b, pl, ph, e, ⟨⟨n1, fun e2 => hs ⟨b, 1, none⟩ e2 _ n5⟩, n2, ⟨v, n3.no hs, n4⟩, n5, n6, n7, n8⟩, TreeAt.no hs l pl hl, TreeAt.no hs h ph hh⟩
theorem BagL.no {w : World} {Q : Nat → Prop} {g s : Nat} {l : List En} (h : BagL w Q g l) (hs : NoInt w s) : BagL w (fun k => Q k ∧ k ≠ s) g l := by
  obtain ⟨h0, p, t, h1, h2, h3⟩ := h
  exact ⟨h0, p, t, h1, h2, TreeAt.no hs t p h3⟩
theorem IdxB.only {w w' : World} {x b s : Nat} {D : DataW Value} {A : Option Addr} {c : Nat} {cols : List Int} {S : List Sh} (h : IdxB w x b D A c cols S) (ho : Only s w w') (hs : s ∉ mus x b S) (hn : NoInt w s) : IdxB w' x b D A c cols S := by
  obtain ⟨h1, h2, h3, h4, h5, h6, h7⟩ := h
  have hk : KeepQ (fun k => Qm x b S k ∧ k ≠ s) w w' := fun k hq hl => ho.2 k hl hq.2
  have hb' : ∀ k ∈ mus x b S, w'.heap[k]? = w.heap[k]? := fun k hk => ho.2 k (h6 k hk) (fun e => hs (e ▸ hk))
  refine ⟨(hb' x (by simp [mus])).trans h1, (h2.no hn).keep hk (fun _ _ h => h.1), ownsMap_block h3 (hb' b (by simp [mus])), h4, h5, fun k hk => Nat.lt_of_lt_of_le (h6 k hk) ho.1.size, fun i hi => ?_⟩
  obtain ⟨a1, a2⟩ := h7 i hi
  exact ⟨(hb' i.s (mus_mem hi).1).trans a1, ((a2.no hn).keep hk (hb' i.g (mus_mem hi).2)).imp9 (fun _ _ h => h.1)⟩

/-! ### keys of one cell -/
def K0 (xs : List V) : ByteArray := markB (xs.take 1)
theorem pick0 {xs : List V} (h : xs ≠ []) : pickR xs [0] = (xs.take 1, 0) := by
  cases xs with
  | nil => exact absurd rfl h
  | cons v r => simp [pickR, inR, getV]
theorem pick0_no : pickR [] [0] = ([], 2) := by simp [pickR, inR]
theorem right_first {v : V} {r : List V} (h : rightR (v :: r) = true) : rightV v = true := by
  unfold rightR at h
  simp only [Bool.and_eq_true, List.all_cons] at h
  exact h.2.1
theorem K0_same {xs ys : List V} (hx : rightR xs = true) (hy : rightR ys = true) (h : cmpR xs ys = 0) : K0 xs = K0 ys := by
  unfold K0
  cases xs with
  | nil =>
    cases ys with
    | nil => rfl
    | cons b s => simp [cmpR] at h
  | cons a r =>
    cases ys with
    | nil => simp [cmpR] at h
    | cons b s =>
      have h1 : cmpV a b = 0 := by
        unfold cmpR at h
        split at h
        · next e => exact e
        · next e => exact absurd h e
      have h2 := cmpV_eq a b (right_first hx) (right_first hy)
      rw [h1] at h2
      have h3 : a = b := (eqV_iff a b).1 h2.symm
      rw [h3]
      rfl
theorem sum_few : ∀ l : List En, (∀ e ∈ l, fewN e.2 = true) → -1073741824 * (l.length : Int) ≤ sumM l ∧ sumM l ≤ 1073741824 * (l.length : Int)
  | [], _ => by simp [sumM]
  | e :: l, h => by
    have ih := sum_few l (fun f hf => h f (by simp [hf]))
    have h1 := (fewN_iff _).1 (h e (by simp))
    unfold sumM
    rw [List.length_cons]
    omega
theorem fil_len (K : List V → ByteArray) (z : ByteArray) (L : List En) : (fil K z L).length ≤ L.length := List.length_filter_le _ _
theorem fineS {K : List V → ByteArray} {S : List Sh} {L : List En} (hi : InvS K S L) (hn : S.Pairwise (fun a b => a.key ≠ b.key)) (hg : Good L) (hl : L.length ≤ 200) : FineS S := by
  refine ⟨?_, fun h hm => ?_⟩
  · have hnd : (S.map Sh.key).Nodup := by
      unfold List.Nodup
      rw [List.pairwise_map]
      exact hn
    have := nodup_len (S.map Sh.key) (L.map fun e => K e.1) hnd (fun z hz => by
      obtain ⟨i, hm, rfl⟩ := List.mem_map.1 hz
      obtain ⟨_, _, hne⟩ := hi.mem hn hm
      obtain ⟨e, he⟩ := List.exists_mem_of_ne_nil _ hne
      obtain ⟨he1, he2⟩ := fil_mem.1 he
      exact List.mem_map.2 ⟨e, he1, he2⟩)
    rw [List.length_map, List.length_map] at this
    omega
  · obtain ⟨h1, h2, h3⟩ := hi.mem hn hm
    have h4 := fil_len K h.key L
    have h5 := sum_few (fil K h.key L) (fun e he => (hg.2 e (fil_mem.1 he).1).2.1)
    rw [h1, h2]
    exact ⟨h3, by omega, by omega, by omega⟩

/-! ### both -/
/-- The index in block x with the rows of L', and the document's bag with those of L in the box s. -/
structure St9 (h x b s : Nat) (L L' : List En) (S : List Sh) (wr : World) : Prop where
  idx : ∃ D A c, IdxB wr x b D A c [0] S
  ref : RefL wr (fun k => k ∉ mus x b S ∧ k ≠ s) s L
  ns : s ∉ mus x b S
  low : ∀ k, k ∈ mus x b S ∨ k = s → h ≤ k
  size : h ≤ wr.heap.size
  inv : InvS K0 S L'
  good : Good L'
  wide : ∀ e ∈ L', e.1 ≠ [] ∧ WideR e.1
  len : L'.length ≤ 200
theorem St9.later {h x b s : Nat} {L L' : List En} {S : List Sh} {wr w' : World} (k : St9 h x b s L L' S wr) (hb : Below wr.heap.size wr w') : St9 h x b s L L' S w' := by
  obtain ⟨D, A, c, hI⟩ := k.idx
  exact ⟨⟨D, A, c, hI.below hb⟩, k.ref.below hb, k.ns, k.low, Nat.le_trans k.size hb.size, k.inv, k.good, k.wide, k.len⟩
theorem St9.keys {h x b s : Nat} {L L' : List En} {S : List Sh} {wr : World} (k : St9 h x b s L L' S wr) : S.Pairwise (fun a b => a.key ≠ b.key) := by
  obtain ⟨D, A, c, hI⟩ := k.idx
  exact hI.2.2.2.1.2.2.2
theorem St9.new (w w1 : World) (x b : Nat) (D : DataW Value) (A : Option Addr) (c : Nat) (hI : IdxB w1 x b D A c [0] []) (hx : w.heap.size ≤ x) (hb : w.heap.size ≤ b) (hz : w.heap.size ≤ w1.heap.size) :
    St9 w.heap.size x b w1.heap.size [] [] [] (w1.alloc (.cells #[.slice none 0 0] 43)) := by
  have hm := hI.2.2.2.2.2.1
  refine ⟨⟨D, A, c, hI.below (one_new _ _)⟩, ⟨Good.nil, by simp, none, 0, fun _ => rfl, Nat.le_refl _, Boxed.new w1 43 (.slice none 0 0), [], trivial, fun j u hj => by simp [flatE] at hj, by simp⟩, fun h => ?_, fun k hk => ?_, by simp; omega, InvS.nil K0, Good.nil, by simp, by simp⟩
  · have := hm _ h; omega
  · rcases hk with hk | rfl
    · simp [mus] at hk; omega
    · exact hz

theorem setL_wide {x : List V} {n : Int} {L : List En} (hx : x ≠ [] ∧ WideR x) (h : ∀ e ∈ L, e.1 ≠ [] ∧ WideR e.1) : ∀ e ∈ setL x n L, e.1 ≠ [] ∧ WideR e.1 := by
  intro e he
  rcases setL_mem x n L e he with h1 | ⟨_, _, h3 | ⟨f, hf, h3⟩⟩
  · exact h e h1
  · rw [h3]; exact hx
  · rw [← h3]; exact h f hf
theorem addL_wide9 {x : List V} {k : Int} {L : List En} (hx : x ≠ [] ∧ WideR x) (h : ∀ e ∈ L, e.1 ≠ [] ∧ WideR e.1) : ∀ e ∈ (addL x k L).1, e.1 ≠ [] ∧ WideR e.1 := by
  unfold addL
  split
  · exact h
  · split
    · exact h
    · exact setL_wide hx h
theorem addL_len9 (x : List V) (k : Int) (L : List En) : (addL x k L).1.length ≤ L.length + 1 := by
  unfold addL
  split
  · exact Nat.le_succ _
  · split
    · exact Nat.le_succ _
    · exact setL_len2 x _ L

theorem st_add1 {h x b s : Nat} {L : List En} {S : List Sh} {wr : World} (st : St9 h x b s L L S wr) (R : Nat → Prop) (v : Value) (xs : List V) (k : Int) (hx : IsRow wr R v xs) (hne : xs ≠ []) (hw : WideR xs) (hk : -9223372036854775808 ≤ k ∧ k ≤ 9223372036854775807) (hl : L.length ≤ 190) :
    Calls Try.prog 23 #[.pointer (some ⟨x, 0, none⟩), v, .int .i64 k] wr fun e w' => e = .returned (.int .i64 (addL xs k L).2) ∧ Below h wr w' ∧ ∃ S', St9 h x b s L (addL xs k L).1 S' w' := by
  obtain ⟨D, A, c, hI⟩ := st.idx
  have hks : (xs.take 1).length ≤ 1 := by rw [List.length_take]; omega
  refine (i_add_all x b D A c [0] S R v xs (xs.take 1) k wr hI (by simp) hx (pick0 hne) (by omega) (fun u hu => hw u (List.mem_of_mem_take hu)) hk (fineS st.inv st.keys st.good st.len)).mono ?_
  rintro e w' ⟨rfl, om, D', S', hI', hj, hs⟩
  obtain ⟨h1, h2⟩ := step_pure K0 S S' L xs k st.good st.inv (fun hr e he hz => K0_same (st.good.2 e he).2.2 hr hz) hs
  have hz := om.1.size
  have hsl := st.ref.lt
  have hmem : ∀ j, j < wr.heap.size → j ∈ mus x b S' → j ∈ mus x b S := fun j hjl hm => (hj j hm).resolve_right (by omega)
  refine ⟨by rw [← h1]; rfl, om.back st.size (fun j hm => st.low j (.inl hm)), S', ⟨D', A, c, hI'⟩, ?_, fun hm => st.ns (hmem s hsl hm), fun j hm => ?_, by have := st.size; omega, h2, addL_good xs k L st.good, addL_wide9 ⟨hne, hw⟩ st.wide, by have := addL_len9 xs k L; omega⟩
  · have r1 := st.ref.imp (Q' := fun j => (j ∉ mus x b S ∧ j ≠ s) ∧ j ∉ mus x b S') (fun j hjl hq => ⟨hq, fun hm => hq.1 (hmem j hjl hm)⟩)
    have r2 := r1.keep (om.keepQ (fun j hq hm => hq.1.1 hm)) (om.2 s hsl st.ns)
    exact r2.imp (fun j _ hq => ⟨hq.2, hq.1.2⟩)
  · rcases hm with hm | rfl
    · rcases hj j hm with h3 | h3
      · exact st.low j (.inl h3)
      · have := st.size; omega
    · exact st.low _ (.inr rfl)
theorem st_add2 {h x b s : Nat} {L L' : List En} {S : List Sh} {wr : World} (st : St9 h x b s L L' S wr) (R : Nat → Prop) (v : Value) (xs : List V) (k : Int) (hx : IsRow wr R v xs) (hl : L.length ≤ 190) (ha : addL xs k L = (L', 0)) :
    Calls Try.prog 33 #[.pointer (some ⟨s, 0, none⟩), v, .int .i64 k] wr fun e w' => e = .returned (.int .i64 0) ∧ Below h wr w' ∧ St9 h x b s L' L' S w' := by
  obtain ⟨D, A, c, hI⟩ := st.idx
  have hm := hI.2.2.2.2.2.1
  obtain ⟨_, _, Lp, cp, _, _, hbox, _⟩ := id st.ref
  refine (r_add R v xs k (fun j => j ∉ mus x b S ∧ j ≠ s) s L wr (fun j hj => ⟨fun h => by have := hm j h; omega, by have := st.ref.lt; omega⟩) (fun h => h.2 rfl) hx st.ref (by omega)).mono ?_
  rw [ha]
  rintro e w' ⟨rfl, hr, ho⟩
  exact ⟨rfl, ho.1.mono (st.low s (.inr rfl)), ⟨⟨D, A, c, hI.only ho st.ns (noInt_box hbox)⟩, hr, st.ns, st.low, Nat.le_trans st.size ho.1.size, st.inv, st.good, st.wide, st.len⟩⟩
theorem st_no {h x b s : Nat} {L : List En} {S : List Sh} {wr : World} (st : St9 h x b s L L S wr) (R : Nat → Prop) (v : Value) (k : Int) (hx : IsRow wr R v []) :
    Calls Try.prog 23 #[.pointer (some ⟨x, 0, none⟩), v, .int .i64 k] wr fun e w' => e = .returned (.int .i64 2) ∧ Below h wr w' ∧ ∃ S', St9 h x b s L L S' w' := by
  obtain ⟨D, A, c, hI⟩ := st.idx
  refine (i_add_no x b D A c [0] S R v [] k wr hI (by simp) hx pick0_no).mono ?_
  rintro e w' ⟨rfl, hb⟩
  exact ⟨rfl, hb.mono st.size, S, st.later hb⟩
theorem st_find {h x b s : Nat} {L : List En} {S : List Sh} {wr : World} (st : St9 h x b s L L S wr) (e : En) (he : e ∈ L) (Ak : Option Addr) (ck : Nat) (hr : RowAt wr wr.heap.size Ak (e.1.take 1)) :
    Calls Try.prog 27 #[.pointer (some ⟨x, 0, none⟩), .slice Ak 1 ck] wr fun y w' => ∃ F c2, y = .returned (.slice F (fil K0 (K0 e.1) L).length c2) ∧ EntsQ w' (Qm x b S) F (fil K0 (K0 e.1) L) ∧ Below wr.heap.size wr w' := by
  obtain ⟨D, A, c, hI⟩ := st.idx
  obtain ⟨i, hf, hl, hm, hk⟩ := st.inv.has he
  obtain ⟨h1, h2⟩ := st.wide e he
  have hlen : 1 = (e.1.take 1).length := by
    rw [List.length_take]
    have := List.length_pos_iff.2 h1
    omega
  have h3 := fil_len K0 (K0 e.1) L
  have h4 := st.len
  refine (i_find_hit x b D A c [0] S i Ak (e.1.take 1) 1 ck wr hI hf hlen (by omega) (fun u hu => h2 u (List.mem_of_mem_take hu)) hr (by rw [hl]; omega)).mono ?_
  rw [hl]
  rintro y w' ⟨F, c2, rfl, _, hE, hb⟩
  exact ⟨F, c2, rfl, hE, hb⟩
theorem st_len {h x b s : Nat} {L : List En} {S : List Sh} {wr : World} (st : St9 h x b s L L S wr) :
    Calls Try.prog 25 #[.pointer (some ⟨x, 0, none⟩)] wr fun e w' => e = .returned (.int .i64 (L.length : Int)) ∧ Below wr.heap.size wr w' := by
  obtain ⟨D, A, c, hI⟩ := st.idx
  have ht := tot_all st.inv st.keys
  have h4 := st.len
  have h := i_len x b D A c [0] S wr hI (by omega)
  rw [ht] at h
  exact h
theorem st_keys {h x b s : Nat} {L : List En} {S : List Sh} {wr : World} (st : St9 h x b s L L S wr) :
    Calls Try.prog 31 #[.pointer (some ⟨x, 0, none⟩)] wr fun e w' => e = .returned (.int .i64 (S.length : Int)) ∧ wr = w' := by
  obtain ⟨D, A, c, hI⟩ := st.idx
  exact i_keys x b D A c [0] S wr hI
open Go.RowKit

theorem told_right {v : V} (h : rightV v = true) : toldV v = v := by
  have t0 : ∀ s : ByteArray, s.size = 0 → s = ⟨#[]⟩ := by
    intro s hs
    obtain ⟨⟨l⟩⟩ := s
    have : l = [] := by simpa [ByteArray.size] using hs
    rw [this]
  obtain ⟨k, f, n, t⟩ := v
  simp only [rightV, Bool.and_eq_true, Bool.or_eq_true, decide_eq_true_eq, beq_iff_eq, Bool.not_eq_true'] at h
  obtain ⟨⟨⟨⟨⟨h1, h2⟩, f1⟩, n1⟩, s1⟩, _⟩ := h
  unfold toldV
  dsimp only
  by_cases k0 : k = 0
  · rw [if_pos k0, f1.resolve_left (by omega), n1.resolve_left (by omega), t0 t (s1.resolve_left (by omega)), k0]
  · rw [if_neg k0]
    by_cases k1 : k = 1
    · rw [if_pos k1, n1.resolve_left (by omega), t0 t (s1.resolve_left (by omega)), k1]
    · rw [if_neg k1]
      by_cases k2 : k = 2
      · rw [if_pos k2, f1.resolve_left (by omega), t0 t (s1.resolve_left (by omega)), k2]
      · rw [if_neg k2]
        by_cases k3 : k = 3
        · rw [if_pos k3, f1.resolve_left (by omega), n1.resolve_left (by omega), k3]
        · omega
theorem mark_inj {u v : V} (hu : rightV u = true) (hv : rightV v = true) (wu : Wide u) (wv : Wide v) (h : markB [u] = markB [v]) : u = v := by
  unfold markB at h
  injection h with h
  have h1 : rowB ([u].map toldV) = rowB ([v].map toldV) := by
    have := congrArg Array.toList h
    simpa using this
  rw [List.map_singleton, List.map_singleton, told_right hu, told_right hv] at h1
  unfold rowB at h1
  rw [if_pos (by simp [hu]), if_pos (by simp [hv])] at h1
  simp only [List.flatMap_cons, List.flatMap_nil, List.append_nil] at h1
  have h2 := first_back u hu wu [0]
  have h3 := first_back v hv wv [0]
  rw [h1, h3] at h2
  injection h2 with h2
  exact h2.symm
theorem ord_pair : ∀ L : List En, Ord L → L.Pairwise fun a b => cmpR a.1 b.1 < 0
  | [], _ => List.Pairwise.nil
  | _ :: L, h => List.pairwise_cons.2 ⟨h.1, ord_pair L h.2⟩
theorem cmpR_first {a b : V} {r s : List V} (h : cmpR (a :: r) (b :: s) ≤ 0) : cmpV a b ≤ 0 := by
  unfold cmpR at h
  split at h
  · omega
  · exact h
/-- Where the first cell is another one than that of the row ahead, no row ahead has it. -/
theorem group_ne {L : List En} (hg : Good L) (hw : ∀ e ∈ L, e.1 ≠ [] ∧ WideR e.1) (m : Nat) (e' e : En) (v' v : V) (r' r : List V) (he' : L[m]? = some e') (he : L[m + 1]? = some e) (h1 : e'.1 = v' :: r') (h2 : e.1 = v :: r) (hne : v ≠ v') : ∀ f ∈ L.take (m + 1), K0 f.1 ≠ K0 e.1 := by
  intro f hf hk
  have hp := List.pairwise_iff_getElem.1 (ord_pair L hg.1)
  have hfL := List.mem_of_mem_take hf
  obtain ⟨i, hi, hfi⟩ := List.mem_iff_getElem.1 hf
  rw [List.length_take] at hi
  rw [List.getElem_take] at hfi
  obtain ⟨hl1, he1⟩ := List.getElem?_eq_some_iff.1 he'
  obtain ⟨hl2, he2⟩ := List.getElem?_eq_some_iff.1 he
  have hme := List.mem_of_getElem? he
  have hme' := List.mem_of_getElem? he'
  have hlt := hp m (m + 1) hl1 hl2 (by omega)
  rw [he1, he2] at hlt
  have hle : cmpR f.1 e'.1 ≤ 0 := by
    by_cases e : i = m
    · subst e
      have : f = e' := by rw [← hfi, ← he1]
      rw [this]
      have := cmpR_ordered.self e'.1
      omega
    · have := hp i m (by omega) hl1 (by omega)
      rw [hfi, he1] at this
      omega
  obtain ⟨hfn, hfw⟩ := hw f hfL
  cases hf1 : f.1 with
  | nil => exact hfn hf1
  | cons u q =>
    have hru : rightV u = true := right_first (hf1 ▸ (hg.2 f hfL).2.2)
    have hrv : rightV v = true := right_first (h2 ▸ (hg.2 e hme).2.2)
    have hrv' : rightV v' = true := right_first (h1 ▸ (hg.2 e' hme').2.2)
    have huv : u = v := by
      unfold K0 at hk
      rw [hf1, h2] at hk
      exact mark_inj hru hrv (hfw u (by rw [hf1]; simp)) ((hw e hme).2 v (by rw [h2]; simp)) hk
    subst huv
    rw [hf1, h1] at hle
    rw [h1, h2] at hlt
    have a1 := cmpR_first hle
    have a2 := cmpR_first (Int.le_of_lt hlt)
    have a3 := cmpV_ordered.anti u v'
    have h0 : cmpV u v' = 0 := by omega
    have h4 := cmpV_eq u v' hru hrv'
    rw [h0] at h4
    exact hne ((eqV_iff u v').1 h4.symm)
theorem rowAt_take {w : World} {B : Nat} {A : Option Addr} {xs : List V} (h : RowAt w B A xs) (n : Nat) : RowAt w B A (xs.take n) := by
  intro i v hi
  rw [List.getElem?_take] at hi
  split at hi
  · exact h i v hi
  · cases hi
end Go.Proofs.Ytgifkigamebofaa
