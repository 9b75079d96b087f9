/-
  guess and Read of package schema answer the kind whose line a text is, and that there is none where there is none; nothing that was there is changed.
  Condition: the library's variable MaxLen holds a number; the text is no longer than a thousand bytes.
-/
import Derived.Test.YtgifkigamebofaaDoorSgc
namespace Go.Proofs.YtgifkigamebofaaDoor
open Go.RowKit

/-- The parts of a line. -/
def partsS (s : ByteArray) : List ByteArray := Lib.splitB ⟨#[32]⟩ 0 (min 8 (s.size + 1) - 1) s
/-- The only kind whose line a text may be. -/
def guessS (s : ByteArray) : Sc := match partsS s with
  | _ :: nm :: rest => ⟨nm, rest.map guessC⟩
  | _ => ⟨⟨#[]⟩, []⟩
theorem parts_size (sep : ByteArray) (n : Nat) : ∀ (k : Nat) (s : ByteArray), s.size ≤ n → ∀ p ∈ Lib.splitB sep 0 k s, p.size ≤ n
  | 0, s, h, p, hp => by
    rw [Lib.splitB_zero] at hp
    rw [List.mem_singleton.1 hp]
    exact h
  | k + 1, s, h, p, hp => by
    unfold Lib.splitB at hp
    split at hp
    · rw [List.mem_singleton.1 hp]
      exact h
    · rcases List.mem_cons.1 hp with rfl | hp
      · rw [ByteArray.size_extract]; omega
      · exact parts_size sep n k _ (by rw [ByteArray.size_extract]; omega) p hp
theorem parts_len (s : ByteArray) : (partsS s).length ≤ 8 := by
  have := Lib.splitB_length_le ⟨#[32]⟩ 0 (min 8 (s.size + 1) - 1) s
  unfold partsS
  omega
theorem parts_at (w : World) (done : List ByteArray) (N : Nat) : TextsAt (w.alloc (.cells (Lib.cellsOf done N) 9)) (fun _ => True) (some ⟨w.heap.size, 0, none⟩) done := by
  intro j u hj
  refine ⟨_, rfl, trivial, ?_⟩
  rw [show ((⟨w.heap.size, 0, none⟩ : Addr).add j) = ⟨w.heap.size, j, none⟩ from by unfold Addr.add; split <;> simp_all, alloc_new_cells]
  have hl : j < done.length := by
    have := (List.getElem?_eq_some_iff.1 hj).1
    simpa using this
  unfold Lib.cellsOf
  rw [List.getElem?_toArray, List.getElem?_append_left (by simpa using hl)]
  exact hj

theorem step_guess {ops : Array Oper} {o : Oper} {a : Act} {K : Act → World → Prop} {Q : Exit → Act → World → Prop} {E : Prop} (w : World) (hgd : o.guard = none) (x : Operand)
    (ho : o.op = .call { callee := .value (.func 43), args := #[x], argTypes := #[9] }) (t : ByteArray) (d : Co) (hd : guessC t = d) (hx : a.eval x = .string t) (hs : t.size ≤ 1000000) (hm : MV w)
    (h : ∀ w', Below w.heap.size w w' → K (a.put o.dst (.agg #[.string d.nm, .int .i64 d.k, .bool d.nl])) w') : if Region.wanted o (yielded ops a.tmps) = true then Oper.wp Tryd.prog o a w K Q else E := by
  have hw : Region.wanted o (yielded ops a.tmps) = true := by simp [Region.wanted, hgd]
  rw [if_pos hw]
  have e : (execOp a.eval o).run Tryd.prog w = .ok (.enter 43 #[a.eval x]) w := by simp [execOp, ho, go_sem]
  unfold Oper.wp
  rw [e, Oper.upon_enter, hx]
  refine (s_guessC t w hs hm).mono ?_
  rintro e w' ⟨rfl, h2⟩
  rw [hd]
  exact h w' h2

/-- The box of the kind that is being made, at block g. -/
def BoxS (w : World) (g : Nat) (nm : ByteArray) (v : Value) : Prop := w.cell? ⟨g, 0, none⟩ = some (.string nm) ∧ w.cell? ⟨g, 1, none⟩ = some v ∧ w.frozen? ⟨g, 0, none⟩ = false ∧ w.frozen? ⟨g, 1, none⟩ = false ∧ g < w.heap.size
theorem BoxS.keep {w w' : World} {g : Nat} {nm : ByteArray} {v : Value} (h : BoxS w g nm v) (hg : w'.heap[g]? = w.heap[g]?) (hs : w.heap.size ≤ w'.heap.size) : BoxS w' g nm v := by
  obtain ⟨a, b, c, d, e⟩ := h
  exact ⟨(World.cell?_of_block (w := w) hg).trans a, (World.cell?_of_block (w := w) hg).trans b, (World.frozen?_of_block (w := w) hg).trans c, (World.frozen?_of_block (w := w) hg).trans d, by omega⟩
theorem BoxS.below {w w' : World} {g : Nat} {nm : ByteArray} {v : Value} (h : BoxS w g nm v) (hb : Below w.heap.size w w') : BoxS w' g nm v := h.keep (hb.block g h.2.2.2.2) hb.size
theorem BoxS.put {w : World} {g : Nat} {nm : ByteArray} {v : Value} (h : BoxS w g nm v) (u : Value) : BoxS (w.setCell ⟨g, 1, none⟩ u) g nm u := by
  obtain ⟨a, b, c, d, e⟩ := h
  refine ⟨?_, World.cell?_setCell_same _ _ _ b, ?_, ?_, by simp [World.setCell]; exact e⟩
  · rw [World.cell?_setCell_other _ _ _ _ (by simp)]; exact a
  · rw [World.frozen?_setCell]; exact c
  · rw [World.frozen?_setCell]; exact d
theorem OwnC.keepB {w w' : World} {base : Nat} {v : Value} {ls : List Co} (h : OwnC w base v ls) (hk : ∀ k, base ≤ k → k < w.heap.size → w'.heap[k]? = w.heap[k]?) : OwnC w' base v ls := by
  refine ⟨h.1, ?_⟩
  rcases h.2 with hn | ⟨g, cap, cur, hv, hg, hh, r⟩
  · exact Or.inl hn
  · have hlt : g < w.heap.size := (Array.getElem?_eq_some_iff.1 hh).1
    exact Or.inr ⟨g, cap, cur, hv, hg, (hk g hg hlt).trans hh, r⟩

set_option maxRecDepth 100000 in
set_option maxHeartbeats 4000000 in
theorem s_guess (s : ByteArray) (w : World) (hs : s.size ≤ 1000) (hm : MV w) :
    Calls Tryd.prog 34 #[.string s] w fun e w' => ∃ v, e = .returned (.agg #[.string (guessS s).nm, v]) ∧ IsCols w' (Behind w) v (guessS s).cols ∧ Below w.heap.size w w' := by
  have HM := Lib.hid hm
  have hsz : ∀ p ∈ partsS s, p.size ≤ 1000 := parts_size _ 1000 _ s hs
  have HSP := Lib.hid (fun (W : World) (m : Int) (h : W.cell? ⟨0, 0, none⟩ = some (.int .i64 m)) => Tryd.strings_SplitN s ⟨#[32]⟩ 8 m W (by omega) h (by decide) (by decide) (by decide))
  obtain ⟨P, hP⟩ : ∃ P, partsS s = P := ⟨_, rfl⟩
  have hPl := parts_len s
  rw [hP] at hsz hPl
  have HSZ := Lib.hid hsz
  obtain ⟨N, hN⟩ : ∃ N, min 8 (s.size + 1) = N := ⟨_, rfl⟩
  have HSP2 : Hid (∀ (W : World) (m : Int) (_ : W.cell? ⟨0, 0, none⟩ = some (.int .i64 m)), Calls Tryd.prog 42 #[.string s, .string ⟨#[32]⟩, .int .i64 8] W fun e w' => e = .returned (.slice (some ⟨W.heap.size, 0, none⟩) P.length N) ∧ w' = W.alloc (.cells (Lib.cellsOf P N) 9)) := Lib.hid (by
    intro W m h
    have := HSP.out W m h
    rw [show Lib.splitB ⟨#[32]⟩ 0 (min 8 (s.size + 1) - 1) s = P from hP, hN] at this
    exact this)
  have hNP : P.length ≤ N := by
    have := Lib.splitB_length_le ⟨#[32]⟩ 0 (min 8 (s.size + 1) - 1) s
    rw [show Lib.splitB ⟨#[32]⟩ 0 (min 8 (s.size + 1) - 1) s = P from hP] at this
    omega
  obtain ⟨GS, hGS⟩ : ∃ GS, guessS s = GS := ⟨_, rfl⟩
  rw [hGS]
  have HGS := Lib.hid hGS
  have HP := Lib.hid hP
  clear hm hsz hP HSP hGS
  by_cases h2 : P.length < 2
  · have hz : GS = ⟨⟨#[]⟩, []⟩ := by
      rw [← HGS.out]
      unfold guessS
      rw [HP.out]
      match P, h2 with
      | [], _ => rfl
      | [_], _ => rfl
      | _ :: _ :: _, h => simp at h; omega
    subst hz
    go_enter Tryd.func34, Tryd.ntmps34
    go_wp2_with fail
    obtain ⟨m, hm⟩ := HM.out.later (one_new w (.cells #[.string ⟨#[]⟩, .slice none 0 0] 34))
    refine (HSP2.out _ m hm).mono ?_
    rintro e w1 ⟨rfl, rfl⟩
    clear hm
    go_wp2
    exact bodyPost_ret (v := .agg #[.string ⟨#[]⟩, .slice none 0 0]) (by simp [results, Tryd.results34, go_sem]) rfl ⟨_, rfl, IsCols.nil _ _, by repeat (first | exact two_new _ _ _ | (refine bsetG ?_ (by simp)))⟩
  · obtain ⟨p0, nm, rest, rfl⟩ : ∃ p0 nm rest, P = p0 :: nm :: rest := by
      match P, h2 with
      | [], h => exact absurd (by simp) h
      | [_], h => exact absurd (by simp) h
      | a :: b :: r, _ => exact ⟨a, b, r, rfl⟩
    have hz : GS = ⟨nm, rest.map guessC⟩ := by
      rw [← HGS.out]
      unfold guessS
      rw [HP.out]
    subst hz
    obtain ⟨n, hn⟩ : ∃ n, rest.length = n := ⟨_, rfl⟩
    have HNN := Lib.hid hn
    have hlen : (p0 :: nm :: rest).length = n + 2 := by simp [hn]
    rw [hlen] at HSP2 hPl hNP
    have HTX := Lib.hid (parts_at (w.alloc (.cells #[.string ⟨#[]⟩, .slice none 0 0] 34)) (p0 :: nm :: rest) N)
    clear h2 hn hlen HP HGS
    have hcell : ∀ (j : Nat) (t : ByteArray), (p0 :: nm :: rest)[j]? = some t → ((w.alloc (.cells #[.string ⟨#[]⟩, .slice none 0 0] 34)).alloc (.cells (Lib.cellsOf (p0 :: nm :: rest) N) 9)).cell? ⟨w.heap.size + 1, j, none⟩ = some (.string t) := by
      intro j t hj
      obtain ⟨a, ha, _, hc⟩ := HTX.out.get j t hj
      injection ha with ha
      subst ha
      rw [World.size_alloc] at hc
      have e : ((⟨w.heap.size + 1, 0, none⟩ : Addr).add j) = ⟨w.heap.size + 1, j, none⟩ := by unfold Addr.add; split <;> simp_all
      rw [e] at hc
      exact hc
    have HCE := Lib.hid hcell
    have hc1 := hcell 1 nm rfl
    clear hcell
    by_cases hN2 : N = 2
    · subst hN2
      obtain rfl : n = 0 := by omega
      go_enter Tryd.func34, Tryd.ntmps34
      go_wp2_with fail
      obtain ⟨m, hm⟩ := HM.out.later (one_new w (.cells #[.string ⟨#[]⟩, .slice none 0 0] 34))
      refine (HSP2.out _ m hm).mono ?_
      rintro e w1 ⟨rfl, rfl⟩
      clear hm
      obtain ⟨W2, hW2⟩ : ∃ W2, W2 = ((w.alloc (.cells #[.string ⟨#[]⟩, .slice none 0 0] 34)).alloc (.cells (Lib.cellsOf (p0 :: nm :: rest) 2) 9)).alloc (.cells #[.string nm, .slice none 0 0] 34) := ⟨_, rfl⟩
      have hBW : Below w.heap.size w W2 := by rw [hW2]; exact (two_new _ _ _).alloc (by simp only [World.size_alloc]; omega) _
      have hbox : BoxS W2 (w.heap.size + 2) nm (.slice none 0 0) := by rw [hW2]; refine ⟨?_, ?_, ?_, ?_, ?_⟩ <;> simp [go_sem]
      have hres : W2.cell? ⟨w.heap.size, 0, none⟩ = some (.string ⟨#[]⟩) ∧ W2.cell? ⟨w.heap.size, 1, none⟩ = some (.slice none 0 0) ∧ W2.frozen? ⟨w.heap.size, 0, none⟩ = false ∧ W2.frozen? ⟨w.heap.size, 1, none⟩ = false := by rw [hW2]; refine ⟨?_, ?_, ?_, ?_⟩ <;> simp [go_sem]
      have hW2s : W2.heap.size = w.heap.size + 3 := by rw [hW2]; simp
      have hce : ∀ (j : Nat) (t : ByteArray), rest[j]? = some t → W2.cell? ⟨w.heap.size + 1, 2 + j, none⟩ = some (.string t) := by
        intro j t hj
        rw [hW2]
        have h := HCE.out (2 + j) t (by rw [show 2 + j = j + 1 + 1 by omega]; simpa using hj)
        rw [World.cell?_alloc_past _ _ _ (by simp)]
        exact h
      have HCE2 := Lib.hid hce
      have HBW := Lib.hid hBW
      have HBX := Lib.hid hbox
      have HRES := Lib.hid hres
      have HMV := Lib.hid (HM.out.later hBW)
      clear hBW hbox hres hce
      go_wp2
      rw [← hW2]
      go_loopw [20] (fun i wr => ∃ (k : Nat) (v : Value), k ≤ 0 ∧ i = .int .i64 k ∧ BoxS wr (w.heap.size + 2) nm v ∧ OwnC wr (w.heap.size + 3) v ((rest.take k).map guessC) ∧ Below (w.heap.size + 2) W2 wr) (fun i _ => 0 - (intOf i).toNat)
      case atStart => exact ⟨0, _, Nat.zero_le _, rfl, HBX.out, by rw [List.take_zero]; exact OwnC.nil _ _, Below.refl _ _⟩
      case round =>
        obtain ⟨k, v, hk, rfl, hbx, hown, hb⟩ := hrel
        have hle : ((rest.take k).map guessC).length = k := by
          have h9 := HNN.out
          rw [List.length_map, List.length_take]
          omega
        obtain ⟨A0, c0, hv0, hA0, hcap0, hcells0⟩ := hown.slice (Behind w) (fun j hj => by unfold Behind; omega)
        rw [hle] at hv0 hcap0
        subst hv0
        have HBK := Lib.hid hbx
        have HO := Lib.hid hown
        have HB := Lib.hid hb
        have hsz : W2.heap.size ≤ wr.heap.size := hb.size
        have HC0 := Lib.hid (And.intro hA0 (And.intro hcap0 hcells0))
        have HLE := Lib.hid hle
        obtain ⟨x0, x1, x2, x3, x4⟩ := hbx
        clear hA0 hcap0 hcells0 hown hb hle
        by_cases h1 : k < 0
        · exact absurd h1 (Nat.not_lt_zero _)
        · obtain rfl : k = 0 := by omega
          have r0 : wr.cell? ⟨w.heap.size, 0, none⟩ = some (.string ⟨#[]⟩) := (HB.out.cell (p := ⟨w.heap.size, 0, none⟩) (by simp)).trans HRES.out.1
          have r1 : wr.cell? ⟨w.heap.size, 1, none⟩ = some (.slice none 0 0) := (HB.out.cell (p := ⟨w.heap.size, 1, none⟩) (by simp)).trans HRES.out.2.1
          have r2 : wr.frozen? ⟨w.heap.size, 0, none⟩ = false := (HB.out.frozen (p := ⟨w.heap.size, 0, none⟩) (by simp)).trans HRES.out.2.2.1
          have r3 : wr.frozen? ⟨w.heap.size, 1, none⟩ = false := (HB.out.frozen (p := ⟨w.heap.size, 1, none⟩) (by simp)).trans HRES.out.2.2.2
          have hz9 : w.heap.size < wr.heap.size := by omega
          have hfin : ∀ u0 u1, Below w.heap.size w ((wr.setCell ⟨w.heap.size, 0, none⟩ u0).setCell ⟨w.heap.size, 1, none⟩ u1) := fun u0 u1 => bsetG (bsetG (HBW.out.trans (HB.out.mono (by omega))) (Nat.le_refl _)) (Nat.le_refl _)
          go_wp2
          refine bodyPost_ret (v := .agg #[.string nm, .slice A0 0 c0]) (by simp [results, Tryd.results34, go_sem, r0, r1]) rfl ⟨_, rfl, ?_, hfin _ _⟩
          have hall : (rest.take 0).map guessC = rest.map guessC := by rw [List.take_of_length_le (by rw [HNN.out]; exact Nat.le_refl _)]
          have hl9 := HLE.out
          obtain ⟨g1, g2, g3⟩ := HC0.out
          rw [hall] at hl9 g3
          have hcq : CellsQ wr (fun j => w.heap.size < j) A0 (flatC (rest.map guessC)) := by
            have ho := HO.out
            rw [hall] at ho
            obtain ⟨A5, c5, hv5, _, _, h5⟩ := ho.slice (fun j => w.heap.size < j) (fun j hj => by omega)
            injection hv5 with e1 e2 e3
            rw [e1]
            exact h5
          exact ⟨by rw [hl9]; omega, A0, c0, by rw [hl9], g1, by rw [hl9]; exact g2, ((hcq.keep (keep_set (by simp))).keep (keep_set (by simp))).imp (fun j _ hj => Nat.le_of_lt hj)⟩
    · clear hN
      go_enter Tryd.func34, Tryd.ntmps34
      go_wp2_with fail
      obtain ⟨m, hm⟩ := HM.out.later (one_new w (.cells #[.string ⟨#[]⟩, .slice none 0 0] 34))
      refine (HSP2.out _ m hm).mono ?_
      rintro e w1 ⟨rfl, rfl⟩
      clear hm
      obtain ⟨W2, hW2⟩ : ∃ W2, W2 = ((w.alloc (.cells #[.string ⟨#[]⟩, .slice none 0 0] 34)).alloc (.cells (Lib.cellsOf (p0 :: nm :: rest) N) 9)).alloc (.cells #[.string nm, .slice none 0 0] 34) := ⟨_, rfl⟩
      have hBW : Below w.heap.size w W2 := by rw [hW2]; exact (two_new _ _ _).alloc (by simp only [World.size_alloc]; omega) _
      have hbox : BoxS W2 (w.heap.size + 2) nm (.slice none 0 0) := by rw [hW2]; refine ⟨?_, ?_, ?_, ?_, ?_⟩ <;> simp [go_sem]
      have hres : W2.cell? ⟨w.heap.size, 0, none⟩ = some (.string ⟨#[]⟩) ∧ W2.cell? ⟨w.heap.size, 1, none⟩ = some (.slice none 0 0) ∧ W2.frozen? ⟨w.heap.size, 0, none⟩ = false ∧ W2.frozen? ⟨w.heap.size, 1, none⟩ = false := by rw [hW2]; refine ⟨?_, ?_, ?_, ?_⟩ <;> simp [go_sem]
      have hW2s : W2.heap.size = w.heap.size + 3 := by rw [hW2]; simp
      have hce : ∀ (j : Nat) (t : ByteArray), rest[j]? = some t → W2.cell? ⟨w.heap.size + 1, 2 + j, none⟩ = some (.string t) := by
        intro j t hj
        rw [hW2]
        have h := HCE.out (2 + j) t (by rw [show 2 + j = j + 1 + 1 by omega]; simpa using hj)
        rw [World.cell?_alloc_past _ _ _ (by simp)]
        exact h
      have HCE2 := Lib.hid hce
      have HBW := Lib.hid hBW
      have HBX := Lib.hid hbox
      have HRES := Lib.hid hres
      have HMV := Lib.hid (HM.out.later hBW)
      clear hBW hbox hres hce
      go_wp2
      rw [← hW2]
      go_loopw [20] (fun i wr => ∃ (k : Nat) (v : Value), k ≤ n ∧ i = .int .i64 k ∧ BoxS wr (w.heap.size + 2) nm v ∧ OwnC wr (w.heap.size + 3) v ((rest.take k).map guessC) ∧ Below (w.heap.size + 2) W2 wr) (fun i _ => n - (intOf i).toNat)
      case atStart => exact ⟨0, _, Nat.zero_le _, rfl, HBX.out, by rw [List.take_zero]; exact OwnC.nil _ _, Below.refl _ _⟩
      case round =>
        obtain ⟨k, v, hk, rfl, hbx, hown, hb⟩ := hrel
        have hle : ((rest.take k).map guessC).length = k := by
          have h9 := HNN.out
          rw [List.length_map, List.length_take]
          omega
        obtain ⟨A0, c0, hv0, hA0, hcap0, hcells0⟩ := hown.slice (Behind w) (fun j hj => by unfold Behind; omega)
        rw [hle] at hv0 hcap0
        subst hv0
        have HBK := Lib.hid hbx
        have HO := Lib.hid hown
        have HB := Lib.hid hb
        have hsz : W2.heap.size ≤ wr.heap.size := hb.size
        have HC0 := Lib.hid (And.intro hA0 (And.intro hcap0 hcells0))
        have HLE := Lib.hid hle
        obtain ⟨x0, x1, x2, x3, x4⟩ := hbx
        clear hA0 hcap0 hcells0 hown hb hle
        by_cases h1 : k < n
        · obtain ⟨t, ht⟩ : ∃ t, rest[k]? = some t := ⟨_, List.getElem?_eq_getElem (by rw [HNN.out]; exact h1)⟩
          have hct : wr.cell? ⟨w.heap.size + 1, 2 + k, none⟩ = some (.string t) := (HB.out.cell (p := ⟨w.heap.size + 1, 2 + k, none⟩) (Nat.lt_succ_self _)).trans (HCE2.out k t ht)
          have hz9 : w.heap.size + 1 < wr.heap.size := by omega
          have hts : t.size ≤ 1000000 := Nat.le_trans (HSZ.out t (by simp [List.mem_of_getElem? ht])) (by decide)
          obtain ⟨d, hd⟩ : ∃ d, guessC t = d := ⟨_, rfl⟩
          have htk : (rest.take (k + 1)).map guessC = (rest.take k).map guessC ++ [d] := by
            rw [List.take_add_one, ht]
            simp [hd]
          have HTK := Lib.hid htk
          have HL4 : Hid (((rest.take k).map guessC ++ [d]).length = k + 1) := Lib.hid (by have := HLE.out; rw [List.length_append, this]; rfl)
          have HD := Lib.hid hd
          have hmr : MV wr := by
            obtain ⟨m, hm⟩ := HMV.out
            exact ⟨m, (HB.out.cell (p := ⟨0, 0, none⟩) (Nat.lt_of_lt_of_le HM.out.lt (Nat.le_add_right _ _))).trans hm⟩
          have HMR := Lib.hid hmr
          have HTS := Lib.hid hts
          clear ht htk hd hmr hts
          go_wp2
          go_region_law (first
            | (refine step_guess _ (by rfl) _ (by rfl) t d HD.out (by rfl) HTS.out (by exact HMR.out) ?_; intro w3 hb3; have hb3' := below_of_drew hb3; have HB3 := Lib.hid hb3'; have HX3 := Lib.hid (HBK.out.below hb3'); have HO3 := Lib.hid (HO.out.below hb3'); obtain ⟨y0, y1, y2, y3, y4⟩ := HX3.out; clear hb3 hb3')
            | (refine step_append_C _ (by rfl) _ _ (by rfl) (w.heap.size + 3) _ ((rest.take k).map guessC) [d] (by rfl) (HO3.out.alloc _) _ _ _ (by rfl) (by rfl) (fun _ => True) (c_lit1 w3 d) (by have := HLE.out; simp only [List.length_cons, List.length_nil]; omega) (by simp only [World.size_alloc]; omega) ?_; intro v4 w4 hown4 hb4 _; have HX4 := Lib.hid ((HX3.out.below (one_new w3 (.cells #[.string d.nm, .int .i64 d.k, .bool d.nl] 49))).keep (hb4.block _ (Nat.lt_succ_self _)) hb4.size); have HO4 := Lib.hid hown4; have HB4 := Lib.hid hb4; obtain ⟨A4, c4, hv4, _⟩ := hown4.slice (fun _ => True) (fun _ _ => trivial); rw [HL4.out] at hv4; subst hv4; obtain ⟨z0, z1, z2, z3, z4⟩ := HX4.out; clear hown4 hb4))
          all_goals
            go_wp2
            go_roundw
            case rel =>
              refine ⟨k + 1, _, by omega, by go_num, HX4.out.put _, by rw [HTK.out]; exact HO4.out.keepB (fun j hj _ => Below.heap_setCell w4 ⟨w.heap.size + 1 + 1, 1, none⟩ _ j (by show j ≠ w.heap.size + 1 + 1; omega)), ?_⟩
              exact ((HB.out.trans (HB3.out.mono (by omega))).trans (((one_new w3 _).mono (by omega)).trans (HB4.out.mono (by omega)))).setCell (p := ⟨w.heap.size + 2, 1, none⟩) (Nat.le_refl _) _
            case measure => simp [intOf]; omega
        · obtain rfl : k = n := by omega
          have r0 : wr.cell? ⟨w.heap.size, 0, none⟩ = some (.string ⟨#[]⟩) := (HB.out.cell (p := ⟨w.heap.size, 0, none⟩) (by simp)).trans HRES.out.1
          have r1 : wr.cell? ⟨w.heap.size, 1, none⟩ = some (.slice none 0 0) := (HB.out.cell (p := ⟨w.heap.size, 1, none⟩) (by simp)).trans HRES.out.2.1
          have r2 : wr.frozen? ⟨w.heap.size, 0, none⟩ = false := (HB.out.frozen (p := ⟨w.heap.size, 0, none⟩) (by simp)).trans HRES.out.2.2.1
          have r3 : wr.frozen? ⟨w.heap.size, 1, none⟩ = false := (HB.out.frozen (p := ⟨w.heap.size, 1, none⟩) (by simp)).trans HRES.out.2.2.2
          have hz9 : w.heap.size < wr.heap.size := by omega
          have hfin : ∀ u0 u1, Below w.heap.size w ((wr.setCell ⟨w.heap.size, 0, none⟩ u0).setCell ⟨w.heap.size, 1, none⟩ u1) := fun u0 u1 => bsetG (bsetG (HBW.out.trans (HB.out.mono (by omega))) (Nat.le_refl _)) (Nat.le_refl _)
          go_wp2
          refine bodyPost_ret (v := .agg #[.string nm, .slice A0 k c0]) (by simp [results, Tryd.results34, go_sem, r0, r1]) rfl ⟨_, rfl, ?_, hfin _ _⟩
          have hall : (rest.take k).map guessC = rest.map guessC := by rw [List.take_of_length_le (by rw [HNN.out]; exact Nat.le_refl _)]
          have hl9 := HLE.out
          obtain ⟨g1, g2, g3⟩ := HC0.out
          rw [hall] at hl9 g3
          have hcq : CellsQ wr (fun j => w.heap.size < j) A0 (flatC (rest.map guessC)) := by
            have ho := HO.out
            rw [hall] at ho
            obtain ⟨A5, c5, hv5, _, _, h5⟩ := ho.slice (fun j => w.heap.size < j) (fun j hj => by omega)
            injection hv5 with e1 e2 e3
            rw [e1]
            exact h5
          exact ⟨by rw [hl9]; omega, A0, c0, by rw [hl9], g1, by rw [hl9]; exact g2, ((hcq.keep (keep_set (by simp))).keep (keep_set (by simp))).imp (fun j _ hj => Nat.le_of_lt hj)⟩
end Go.Proofs.YtgifkigamebofaaDoor
