/-
  Split of the document's schema answers the parts of a text with a byte between, at every text of no more than a thousand bytes; nothing that was there is changed.
-/
import Derived.Test.YtgifkigamebofaaDoorSrline
import Derived.Test.YtgifkigamebofaaDoorSlpure
import Derived.Laws.OwnMore
import Derived.BigRegion
namespace Go.Proofs.YtgifkigamebofaaDoor
open Go.RowKit

/-- A row of texts of the call's own. -/
def txs (ls : List (List UInt8)) : List Value := ls.map fun p => .string ⟨p.toArray⟩
def OwnT (w : World) (base : Nat) (v : Value) (ls : List (List UInt8)) : Prop := w.ownsRow base 9 1 v ls.length (txs ls)
theorem txs_len (ls : List (List UInt8)) : (txs ls).length = ls.length := by simp [txs]
theorem OwnT.below {w w' : World} {base : Nat} {v : Value} {ls : List (List UInt8)} (h : OwnT w base v ls) (hb : Below w.heap.size w w') : OwnT w' base v ls := by
  refine ⟨h.1, ?_⟩
  rcases h.2 with hn | ⟨g, cap, cur, hv, hg, hh, r⟩
  · exact Or.inl hn
  · have hlt : g < w.heap.size := (Array.getElem?_eq_some_iff.1 hh).1
    exact Or.inr ⟨g, cap, cur, hv, hg, (hb.block g hlt).trans hh, r⟩
theorem OwnT.form {w : World} {base : Nat} {v : Value} {ls : List (List UInt8)} (h : OwnT w base v ls) (h0 : 0 < ls.length) : ∃ g cap, v = .slice (some ⟨g, 0, none⟩) ls.length cap ∧ base ≤ g ∧ g < w.heap.size := by
  rcases h.2 with ⟨_, hn⟩ | ⟨g, cap, cur, hv, hg, hh, _⟩
  · omega
  · exact ⟨g, cap, hv, hg, (Array.getElem?_eq_some_iff.1 hh).1⟩
theorem OwnT.get {w : World} {base : Nat} {g n cap : Nat} {ls : List (List UInt8)} (h : OwnT w base (.slice (some ⟨g, 0, none⟩) n cap) ls) (hn : n = ls.length) (j : Nat) (p : List UInt8) (hp : ls[j]? = some p) : w.cell? ⟨g, j, none⟩ = some (.string ⟨p.toArray⟩) ∧ w.frozen? ⟨g, j, none⟩ = false := by
  subst hn
  have hj := (List.getElem?_eq_some_iff.1 hp).1
  refine ⟨?_, World.ownsRow.frozenAt h j⟩
  rw [World.ownsRow.cellAt h j (by omega)]
  unfold txs
  rw [List.getElem?_map, hp]
  rfl
theorem info_T : (Tryd.prog.info? 9).map (fun i => (i.zero, i.size, i.bytes)) = some (some (.string ⟨#[]⟩), 1, 16) := by kernel_rfl

set_option maxRecDepth 10000 in
theorem wp_append_T {ops : Array Oper} {rest : List Oper} {o : Oper} {a : Act} {Q : Exit → Act → World → Prop} (w : World) (hgd : o.guard = none) (s x : Operand)
    (ho : o.op = .call { callee := .builtin .append, args := #[s, x], argTypes := #[63, 63] })
    (base : Nat) (v : Value) (xs : List (List UInt8)) (p : List UInt8) (hs : a.eval s = v) (hown : OwnT w base v xs) (ad : Addr) (c : Nat) (hx : a.eval x = .slice (some ad) 1 c) (hr : w.cell? ad = some (.string ⟨p.toArray⟩))
    (hroom : xs.length ≤ 3000000) (hbase : base ≤ w.heap.size)
    (h : ∀ v' w', OwnT w' base v' (xs ++ [p]) → Below base w w' → wpList Tryd.prog ops Q rest (a.put o.dst v') w') : wpList Tryd.prog ops Q (o :: rest) a w := by
  refine wpList_plain hgd fun K hK => ?_
  obtain ⟨i, hi, hz, hsize, hby⟩ := info_parts info_T
  obtain ⟨v', w', hrun, h3, h4, _, _⟩ := run_append_own_at (P := Tryd.prog) w base 63 o.type 9 i _ 1 16 Tryd.underlying63 hi hz hsize hby rfl (by omega) v xs.length (txs xs) hown ad 1 c [.string ⟨p.toArray⟩]
      rfl (fun j u hj => by
        cases j with
        | zero =>
          have e : Value.string ⟨p.toArray⟩ = u := by simpa using hj
          subst e
          rw [show ad.add 0 = ad from by simp [Addr.add]]
          exact hr
        | succ j => simp at hj) (by intro u hu; rw [List.mem_singleton.1 hu]; rfl) (by unfold maxLen; omega) (by omega) hbase
  have hown2 : OwnT w' base v' (xs ++ [p]) := by
    unfold OwnT txs
    rw [List.map_append, List.length_append]
    exact h3
  unfold Oper.wp execOp
  simp only [ho, resolve, invoke, builtin, Sem.run_bind, Sem.run_pure, Result.andThen_ok, List.map_toArray, List.map_cons, List.map_nil, hs, hx, hrun]
  exact hK _ _ (h v' w' hown2 ((Below.refl _ _).grown h4 hbase (fun k hk => (World.ownsRow.lt hown k hk).1)))

theorem cut_one1 (s : ByteArray) (k : Nat) (h : k < s.size) : s.extract k (k + 1) = ⟨[s[k]].toArray⟩ := by
  apply ByteArray.ext
  apply Array.ext
  · simp only [ByteArray.data_extract, Array.size_extract, List.size_toArray, List.length_cons, List.length_nil]
    have : s.data.size = s.size := rfl
    omega
  · intro i h1 h2
    simp only [List.size_toArray, List.length_cons, List.length_nil] at h2
    obtain rfl : i = 0 := by omega
    simp only [ByteArray.data_extract, Array.getElem_extract, Nat.add_zero]
    rfl
theorem cat_one (q : List UInt8) (s : ByteArray) (k : Nat) (h : k < s.size) : (⟨q.toArray⟩ : ByteArray) ++ s.extract k (k + 1) = ⟨(q ++ [s[k]]).toArray⟩ := by
  rw [cut_one1 s k h]
  apply ByteArray.ext
  simp
theorem fold_take (c : UInt8) (s : ByteArray) (k : Nat) (h : k < s.size) : (s.data.toList.take (k + 1)).foldl (stepS c) [[]] = stepS c ((s.data.toList.take k).foldl (stepS c) [[]]) s[k] := by
  rw [List.take_add_one, List.foldl_append]
  have e : s.data.toList[k]? = some s[k] := List.getElem?_eq_getElem (by show k < s.data.size; exact h)
  rw [e]
  rfl

set_option maxRecDepth 100000 in
set_option maxHeartbeats 4000000 in
theorem ref_split (s : ByteArray) (c : UInt8) (w : World) (hs : s.size ≤ 1000) :
    Calls Tryd.prog 35 #[.string s, .int .u8 (c.toNat : Int)] w fun e w' => ∃ v, e = .returned v ∧ OwnT w' w.heap.size v (splitF c s.data.toList) ∧ 0 < (splitF c s.data.toList).length ∧ (splitF c s.data.toList).length ≤ 1001 ∧ (∀ p ∈ splitF c s.data.toList, p.length ≤ 1000) ∧ Below w.heap.size w w' := by
  have hlen : s.data.toList.length = s.size := rfl
  obtain ⟨R, hR⟩ : ∃ R, splitF c s.data.toList = R := ⟨_, rfl⟩
  rw [hR]
  have HR := Lib.hid hR
  have hlit : OwnT (w.alloc (.cells #[.string ⟨#[]⟩] 9)) w.heap.size (.slice (some ⟨w.heap.size, 0, none⟩) 1 1) [[]] := World.ownsRow_lit w #[.string ⟨#[]⟩] 1 (Nat.le_refl _) (by unfold maxLen; omega) rfl
  have HLIT := Lib.hid hlit
  have HLEN := Lib.hid hlen
  clear hR hlit hlen
  go_enter Tryd.func35, Tryd.ntmps35
  go_wp2
  go_loopw [5, 6] (fun vv i wr => ∃ (k : Nat) (acc : List (List UInt8)), k ≤ s.size ∧ i = .int .i64 k ∧ OwnT wr w.heap.size vv acc ∧ acc = (s.data.toList.take k).foldl (stepS c) [[]] ∧ 0 < acc.length ∧ acc.length ≤ k + 1 ∧ (∀ p ∈ acc, p.length ≤ k) ∧ Below w.heap.size w wr) (fun _ i _ => s.size - (intOf i).toNat)
  case atStart => exact ⟨0, [[]], Nat.zero_le _, rfl, HLIT.out, by simp, by simp, by simp, by simp, one_new _ _⟩
  case round =>
    obtain ⟨k, acc, hk, rfl, hown, hacc, hpos, hal, hpl, hb⟩ := hrel
    obtain ⟨g, cap, rfl, hbg, hgl⟩ := hown.form hpos
    have HO := Lib.hid hown
    have HACC := Lib.hid hacc
    have HPL := Lib.hid hpl
    have HB := Lib.hid hb
    have hsz : w.heap.size ≤ wr.heap.size := hb.size
    clear hown hacc hpl hb
    obtain ⟨m, hm⟩ : ∃ m, acc.length = m + 1 := ⟨acc.length - 1, by omega⟩
    have HM := Lib.hid hm
    by_cases h1 : k < s.size
    · have hft := fold_take c s k h1
      rw [← HACC.out] at hft
      have HFT := Lib.hid hft
      clear hft
      by_cases hc : s[k] = c
      · have bz : ((s[k].toNat : Int) == (c.toNat : Int)) = true := by rw [hc]; simp
        have hst : stepS c acc s[k] = acc ++ [[]] := by unfold stepS; rw [if_pos hc]
        have HST := Lib.hid hst
        have hml : acc.length ≤ 3000000 := by omega
        clear hc hst hm
        go_wp2_with (at_builtin; go_must (refine wp_append_T _ rfl _ _ rfl w.heap.size _ acc [] rfl (World.ownsRow.alloc HO.out _) ⟨wr.heap.size, 0, none⟩ 1 rfl (by simp [go_sem]) hml (by simp; omega) ?_; intro v' w1 hown1 hb1))
        have HO1 := Lib.hid hown1
        have HB1 := Lib.hid hb1
        clear hown1 hb1
        go_wp2
        go_roundw
        case rel =>
          refine ⟨k + 1, acc ++ [[]], by omega, by go_num, HO1.out, by rw [HFT.out, HST.out], by simp, by simp; omega, ?_, ?_⟩
          · intro p hp
            rcases List.mem_append.1 hp with hp | hp
            · exact Nat.le_succ_of_le (HPL.out p hp)
            · rw [List.mem_singleton.1 hp]; simp
          · exact HB.out.trans ((one_new_far _ _ hsz).trans HB1.out)
        case measure => simp [intOf]; omega
      · have bz : ((s[k].toNat : Int) == (c.toNat : Int)) = false := by
          rw [beq_eq_false_iff_ne]
          intro e
          exact hc (UInt8.toNat_inj.1 (by omega))
        obtain ⟨q, hq⟩ : ∃ q, acc[m]? = some q := ⟨_, List.getElem?_eq_getElem (by omega)⟩
        obtain ⟨c0, f0⟩ := HO.out.get rfl m q hq
        have hql := HPL.out q (List.mem_iff_getElem?.2 ⟨m, hq⟩)
        have hst : stepS c acc s[k] = acc.set m (q ++ [s[k]]) := by
          unfold stepS
          rw [if_neg hc, List.getLast?_eq_getElem?, show acc.length - 1 = m from by omega, hq]
          simp only [Option.getD_some]
          apply List.ext_getElem?
          intro j
          by_cases hj : j < m
          · rw [List.getElem?_append_left (by rw [List.length_dropLast]; omega), List.getElem?_dropLast, if_pos (by omega), List.getElem?_set_ne (by omega)]
          · by_cases hjm : j = m
            · subst hjm
              rw [List.getElem?_append_right (by rw [List.length_dropLast]; omega), List.length_dropLast, show j - (acc.length - 1) = 0 from by omega, List.getElem?_set_self (by omega)]
              rfl
            · rw [List.getElem?_eq_none (by rw [List.length_append, List.length_dropLast, List.length_singleton]; omega), List.getElem?_eq_none (by rw [List.length_set]; omega)]
        have HST := Lib.hid hst
        have hcat : (⟨q.toArray⟩ : ByteArray) ++ ⟨#[s[k]]⟩ = ⟨(q ++ [s[k]]).toArray⟩ := by apply ByteArray.ext; simp
        have HCAT := Lib.hid hcat
        have hsto : OwnT (wr.setCell ⟨g, m, none⟩ (.string ⟨(q ++ [s[k]]).toArray⟩)) w.heap.size (.slice (some ⟨g, 0, none⟩) (m + 1) cap) (acc.set m (q ++ [s[k]])) := by
          have h := (World.ownsRow.stored HO.out m (.string ⟨(q ++ [s[k]]).toArray⟩)).1
          unfold OwnT
          rw [List.length_set, show txs (acc.set m (q ++ [s[k]])) = (txs acc).set m (.string ⟨(q ++ [s[k]]).toArray⟩) from List.map_set]
          rw [hm] at h ⊢
          exact h
        have HSTO := Lib.hid hsto
        have hset : ∀ p ∈ acc.set m (q ++ [s[k]]), p.length ≤ k + 1 := by
          intro p hp
          rcases List.mem_or_eq_of_mem_set hp with hp | rfl
          · exact Nat.le_succ_of_le (HPL.out p hp)
          · simp; omega
        have HSET := Lib.hid hset
        rw [hm]
        have w1 : IntKind.i64.wrap (m : Int) = (m : Int) := IntWalk.i64_in _ (by omega)
        have w5 : (m : Int) < (m : Int) + 1 := by omega
        have w2 : (0 : Int) ≤ (m : Int) := by omega
        have w3 : ((m : Int)).toNat = m := by omega
        have o1 : ¬ 9223372036854775807 < q.length + 1 := by omega
        have hcut := cut_one1 s k h1
        clear hc hst hcat hsto hset hq hm
        go_wp2
        go_region
        rw [HCAT.out]
        obtain ⟨W9, hW9⟩ : ∃ W9, W9 = wr.setCell ⟨g, m, none⟩ (.string ⟨(q ++ [s[k]]).toArray⟩) := ⟨_, rfl⟩
        rw [← hW9]
        have HO9 : Hid (OwnT W9 w.heap.size (.slice (some ⟨g, 0, none⟩) (m + 1) cap) (acc.set m (q ++ [s[k]]))) := Lib.hid (by rw [hW9]; exact HSTO.out)
        have HB9 : Hid (Below w.heap.size w W9) := Lib.hid (by rw [hW9]; exact HB.out.setCell (p := ⟨g, m, none⟩) hbg _)
        clear hW9 f0 c0
        go_wp2
        go_roundw
        case rel =>
          exact ⟨k + 1, acc.set m (q ++ [s[k]]), by omega, by go_num, HO9.out, by rw [HFT.out, HST.out], by rw [List.length_set]; exact hpos, by rw [List.length_set]; omega, HSET.out, Below.drew HB9.out⟩
        case measure => simp [intOf]; omega
    · obtain rfl : k = s.size := by omega
      have hend : acc = R := by
        rw [HACC.out, List.take_of_length_le (by rw [HLEN.out]; exact Nat.le_refl _), ← HR.out]
        rfl
      subst hend
      go_wp2
      go_ret
      exact ⟨_, rfl, HO.out, hpos, by omega, fun p hp => Nat.le_trans (HPL.out p hp) hs, HB.out⟩
end Go.Proofs.YtgifkigamebofaaDoor
