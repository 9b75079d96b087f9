/-
  The parts of package print: words, list, call, kind, aggregate, a term.
  Condition: a value's number is one of 64 bits; texts are no longer than a thousand million bytes.
  The parts of package print that go over lists: terms, a literal, literals, an aggregate.
  Condition: values' numbers are of 64 bits; words are short.
  A rule's aggregate and a literal as texts.
  Condition: values' numbers are of 64 bits; words are short.
  A literal, and literals, as texts.
  Condition: values' numbers are of 64 bits; words are short.
-/
import Derived.Laws.OwnMore
import Derived.Deep.RegionHeld3
import Derived.Test.YtkobfngnnblpeaaGreatDoorM10
import Derived.Test.YtkobfngnnblpeaaGreatDoorM28
import Derived.Test.YtkobfngnnblpeaaGreatDoorMPba
namespace Go.Proofs.YtkobfngnnblpeaaGreatDoor
section
open Go.RowKit

theorem join_eq (sep : List UInt8) : ∀ l, Lib.join l sep = joinS sep l
  | [] => Lib.join_nil sep
  | [x] => Lib.join_one x sep
  | x :: y :: r => by
    have ih := join_eq sep (y :: r)
    rw [Lib.join_cons] at ih ⊢
    show _ = x ++ (sep ++ joinS sep (y :: r))
    rw [← ih]
    simp [Lib.joinTail]
abbrev txB (xs : List ByteArray) : List (List UInt8) := xs.map fun x => x.data.toList
/-- Texts lie as v says. -/
def StrsAt (w : World) (v : Value) (xs : List ByteArray) : Prop := (v = .slice none 0 0 ∧ xs = []) ∨ ∃ g c, v = .slice (some ⟨g, 0, none⟩) xs.length c ∧ xs.length ≤ c ∧ g < w.heap.size ∧ ElsAt strC 1 w (some ⟨g, 0, none⟩) xs
theorem StrsAt.below {w w' : World} {v : Value} {xs : List ByteArray} (h : StrsAt w v xs) (hb : Below w.heap.size w w') : StrsAt w' v xs := by
  rcases h with h | ⟨g, c, h1, h2, h3, h4⟩
  · exact .inl h
  · exact .inr ⟨g, c, h1, h2, Nat.lt_of_lt_of_le h3 hb.size, h4.below hb⟩
theorem OwnF.strs {w : World} {base : Nat} {v : Value} {l : List ByteArray} (h : OwnSt w base v l) : StrsAt w v l := by
  rcases h.slice el_Str with h | ⟨g, c, h1, _, h3, h4, h5⟩
  · exact .inl h
  · exact .inr ⟨g, c, h1, h4, h3, h5⟩
theorem els_cell {w : World} {g : Nat} {xs : List ByteArray} (h : ElsAt strC 1 w (some ⟨g, 0, none⟩) xs) (j : Nat) (x : ByteArray) (hx : xs[j]? = some x) : w.cell? ⟨g, j, none⟩ = some (.string x) := by
  obtain ⟨a, ha, hc⟩ := els_S h hx
  injection ha with ha
  subst ha
  rw [add_zero_g] at hc
  exact hc

set_option maxHeartbeats 1000000 in
theorem p_words (v : Value) (xs : List ByteArray) (w : World) (h : StrsAt w v xs) (hn : xs.length ≤ 1000000) (hl : (joinS [32] (txB xs)).length ≤ 1000000000) :
    Calls Tryz.prog 49 #[v] w fun e w' => e = .returned (.string ⟨(joinS [32] (txB xs)).toArray⟩) ∧ Below w.heap.size w w' := by
  have hl2 : (Lib.join (xs.map (·.data.toList)) (⟨#[32]⟩ : ByteArray).data.toList).length ≤ 140737488355328 := by
    have e : Lib.join (xs.map (·.data.toList)) (⟨#[32]⟩ : ByteArray).data.toList = joinS [32] (txB xs) := join_eq [32] (txB xs)
    rw [e]; omega
  have e2 : (⟨(Lib.join (xs.map (·.data.toList)) (⟨#[32]⟩ : ByteArray).data.toList).toArray⟩ : ByteArray) = ⟨(joinS [32] (txB xs)).toArray⟩ := congrArg (fun q : List UInt8 => (⟨q.toArray⟩ : ByteArray)) (join_eq [32] (txB xs))
  rcases h with ⟨rfl, rfl⟩ | ⟨g, c, rfl, hc, hg, he⟩
  · go_enter Tryz.func49, Tryz.ntmps49
    go_wp2_with (go_at_call 90; refine (Tryz.strings_Join_none _ _ _ _).mono ?_; rintro e w1 ⟨rfl, rfl⟩)
    go_ret
    exact ⟨rfl, Below.refl _ _⟩
  · have HJ := Lib.hid (Tryz.strings_Join g 0 c xs ⟨#[32]⟩ w (fun j x hx => by rw [Nat.zero_add]; exact els_cell he j x hx) hg (by omega) hc hl2)
    rw [e2] at HJ
    clear e2 hl2 hl he hg hc
    generalize joinS [32] (txB xs) = J at HJ ⊢
    go_enter Tryz.func49, Tryz.ntmps49
    go_wp2_with (go_at_call 90; refine HJ.out.mono ?_; rintro e w1 ⟨rfl, hb⟩)
    go_ret
    exact ⟨rfl, hb⟩
set_option maxHeartbeats 1000000 in
theorem p_list (v : Value) (xs : List ByteArray) (w : World) (h : StrsAt w v xs) (hn : xs.length ≤ 1000000) (hl : (joinS [44, 32] (txB xs)).length ≤ 1000000000) :
    Calls Tryz.prog 50 #[v] w fun e w' => e = .returned (.string ⟨(joinS [44, 32] (txB xs)).toArray⟩) ∧ Below w.heap.size w w' := by
  have hl2 : (Lib.join (xs.map (·.data.toList)) (⟨#[44, 32]⟩ : ByteArray).data.toList).length ≤ 140737488355328 := by
    have e : Lib.join (xs.map (·.data.toList)) (⟨#[44, 32]⟩ : ByteArray).data.toList = joinS [44, 32] (txB xs) := join_eq [44, 32] (txB xs)
    rw [e]; omega
  have e2 : (⟨(Lib.join (xs.map (·.data.toList)) (⟨#[44, 32]⟩ : ByteArray).data.toList).toArray⟩ : ByteArray) = ⟨(joinS [44, 32] (txB xs)).toArray⟩ := congrArg (fun q : List UInt8 => (⟨q.toArray⟩ : ByteArray)) (join_eq [44, 32] (txB xs))
  rcases h with ⟨rfl, rfl⟩ | ⟨g, c, rfl, hc, hg, he⟩
  · go_enter Tryz.func50, Tryz.ntmps50
    go_wp2_with (go_at_call 90; refine (Tryz.strings_Join_none _ _ _ _).mono ?_; rintro e w1 ⟨rfl, rfl⟩)
    go_ret
    exact ⟨rfl, Below.refl _ _⟩
  · have HJ := Lib.hid (Tryz.strings_Join g 0 c xs ⟨#[44, 32]⟩ w (fun j x hx => by rw [Nat.zero_add]; exact els_cell he j x hx) hg (by omega) hc hl2)
    rw [e2] at HJ
    clear e2 hl2 hl he hg hc
    generalize joinS [44, 32] (txB xs) = J at HJ ⊢
    go_enter Tryz.func50, Tryz.ntmps50
    go_wp2_with (go_at_call 90; refine HJ.out.mono ?_; rintro e w1 ⟨rfl, hb⟩)
    go_ret
    exact ⟨rfl, hb⟩
theorem call_cat (nm : ByteArray) (J : List UInt8) : ((nm ++ ⟨#[40]⟩) ++ ⟨J.toArray⟩) ++ ⟨#[41]⟩ = (⟨(nm.data.toList ++ ([40] ++ (J ++ [41]))).toArray⟩ : ByteArray) := by
  apply ByteArray.ext
  simp
set_option maxHeartbeats 1000000 in
theorem p_call (nm : ByteArray) (v : Value) (xs : List ByteArray) (w : World) (h : StrsAt w v xs) (hn : xs.length ≤ 1000000) (hl : (joinS [44, 32] (txB xs)).length ≤ 1000000000) (hnm : nm.size ≤ 1000000) :
    Calls Tryz.prog 47 #[.string nm, v] w fun e w' => e = .returned (.string ⟨(callX nm.data.toList (txB xs)).toArray⟩) ∧ Below w.heap.size w w' := by
  have HJ := Lib.hid (p_list v xs w h hn hl)
  have e1 : (⟨(callX nm.data.toList (txB xs)).toArray⟩ : ByteArray) = ((nm ++ ⟨#[40]⟩) ++ ⟨(joinS [44, 32] (txB xs)).toArray⟩) ++ ⟨#[41]⟩ := (call_cat _ _).symm
  rw [e1]
  have hv : ∃ A n c, v = .slice A n c := by
    rcases h with ⟨h, _⟩ | ⟨g, c, h, _⟩
    · exact ⟨_, _, _, h⟩
    · exact ⟨_, _, _, h⟩
  obtain ⟨A, n, c, rfl⟩ := hv
  clear e1 h
  generalize joinS [44, 32] (txB xs) = J at HJ hl ⊢
  go_enter Tryz.func47, Tryz.ntmps47
  go_wp2_with (go_at_call 50; refine HJ.out.mono ?_; rintro e w1 ⟨rfl, hb⟩)
  go_ret
  exact ⟨rfl, hb⟩

set_option maxHeartbeats 1000000 in
theorem p_kind (k : Int) (w : World) : Calls Tryz.prog 46 #[.int .i64 k] w fun e w' => e = .returned (.string ⟨(kindX k).toArray⟩) ∧ w' = w := by
  by_cases h1 : k = 1
  · subst h1
    go_enter Tryz.func46, Tryz.ntmps46
    go_wp2
    go_ret
    exact ⟨rfl, rfl⟩
  have b1 : (k == 1) = false := by simpa using h1
  by_cases h2 : k = 2
  · subst h2
    clear b1 h1
    go_enter Tryz.func46, Tryz.ntmps46
    go_wp2
    go_ret
    exact ⟨rfl, rfl⟩
  have b2 : (k == 2) = false := by simpa using h2
  by_cases h3 : k = 3
  · subst h3
    clear b1 h1 b2 h2
    go_enter Tryz.func46, Tryz.ntmps46
    go_wp2
    go_ret
    exact ⟨rfl, rfl⟩
  have b3 : (k == 3) = false := by simpa using h3
  have e : kindX k = [] := by unfold kindX; rw [if_neg h1, if_neg h2, if_neg h3]
  rw [e]
  clear h1 h2 h3 e
  go_enter Tryz.func46, Tryz.ntmps46
  go_wp2
  go_ret
  exact ⟨rfl, rfl⟩
set_option maxHeartbeats 1000000 in
theorem p_aggOf (k : Int) (w : World) : Calls Tryz.prog 88 #[.int .i64 k] w fun e w' => e = .returned (.string ⟨(agoX k).toArray⟩) ∧ w' = w := by
  by_cases h1 : k = 2
  · subst h1
    go_enter Tryz.func88, Tryz.ntmps88
    go_wp2
    go_ret
    exact ⟨rfl, rfl⟩
  have b1 : (k == 2) = false := by simpa using h1
  by_cases h2 : k = 3
  · subst h2
    clear b1 h1
    go_enter Tryz.func88, Tryz.ntmps88
    go_wp2
    go_ret
    exact ⟨rfl, rfl⟩
  have b2 : (k == 3) = false := by simpa using h2
  by_cases h3 : k = 4
  · subst h3
    clear b1 h1 b2 h2
    go_enter Tryz.func88, Tryz.ntmps88
    go_wp2
    go_ret
    exact ⟨rfl, rfl⟩
  have b3 : (k == 4) = false := by simpa using h3
  have e : agoX k = [] := by unfold agoX; rw [if_neg h1, if_neg h2, if_neg h3]
  rw [e]
  clear h1 h2 h3 e
  go_enter Tryz.func88, Tryz.ntmps88
  go_wp2
  go_ret
  exact ⟨rfl, rfl⟩

set_option maxHeartbeats 2000000 in
theorem p_term (x : TmP) (w : World) (hv : Vars w) (hx : Wide x.v) : Calls Tryz.prog 25 #[x.val] w fun e w' => e = .returned (.string ⟨(tmW x).toArray⟩) ∧ Below w.heap.size w w' := by
  have HS : Hid (∀ W, Below w.heap.size w W → Calls Tryz.prog 43 #[x.v.val] W fun e w' => e = .returned (.string ⟨(showV x.v).toArray⟩) ∧ Below W.heap.size W w') := Lib.hid fun W hW => show_val x.v W hx (hv.later hW)
  obtain ⟨s, a, ⟨vk, vf, vn, vt⟩⟩ := x
  show Calls Tryz.prog 25 #[.agg #[.string s, .bool a, .int .i64 vk, .bool vf, .int .i64 vn, .string vt]] w _
  have HS : Hid (∀ W, Below w.heap.size w W → Calls Tryz.prog 43 #[.agg #[.int .i64 vk, .bool vf, .int .i64 vn, .string vt]] W fun e w' => e = .returned (.string ⟨(showV ⟨vk, vf, vn, vt⟩).toArray⟩) ∧ Below W.heap.size W w') := HS
  clear hv hx
  cases a with
  | true =>
    clear HS
    go_enter Tryz.func25, Tryz.ntmps25
    go_wp2
    go_ret
    exact ⟨rfl, one_new _ _⟩
  | false =>
    by_cases hs : s.data.toList = []
    · have e : tmW ⟨s, false, ⟨vk, vf, vn, vt⟩⟩ = showV ⟨vk, vf, vn, vt⟩ := by
        unfold tmW
        rw [if_neg (by simp), if_neg (by simpa using hs)]
      rw [e]
      have b1 : (s.toList != []) = false := by rw [ByteArray.toList_eq, hs]; rfl
      have b2 : (s.toList == []) = true := by rw [ByteArray.toList_eq, hs]; rfl
      clear e hs
      go_enter Tryz.func25, Tryz.ntmps25
      go_wp2_with (fail)
      refine (HS.out _ (one_new _ _)).mono ?_
      rintro e w1 ⟨rfl, hb⟩
      have HB := Lib.hid ((one_new w (.cells #[.string s, .bool false, .int .i64 vk, .bool vf, .int .i64 vn, .string vt] 47)).trans (hb.mono (one_new w _).size))
      clear hb
      go_wp2
      go_ret
      exact ⟨rfl, HB.out⟩
    · have e : tmW ⟨s, false, ⟨vk, vf, vn, vt⟩⟩ = s.data.toList := by
        unfold tmW
        rw [if_neg (by simp), if_pos hs]
      rw [e]
      have b1 : (s.toList != []) = true := by rw [ByteArray.toList_eq]; simpa using hs
      have b2 : (s.toList == []) = false := by rw [ByteArray.toList_eq]; simpa using hs
      clear e hs HS
      go_enter Tryz.func25, Tryz.ntmps25
      go_wp2
      go_ret
      exact ⟨by simp, one_new _ _⟩
end
end Go.Proofs.YtkobfngnnblpeaaGreatDoor
namespace Go.Proofs.YtkobfngnnblpeaaGreatDoor
section
open Go.RowKit

theorem joinS_len (sep : List UInt8) (m : Nat) : ∀ (l : List (List UInt8)), (∀ x ∈ l, x.length ≤ m) → (joinS sep l).length ≤ l.length * (m + sep.length)
  | [], _ => by simp [joinS]
  | [x], h => by
    have := h x List.mem_cons_self
    show x.length ≤ 1 * _
    omega
  | x :: y :: r, h => by
    have ih := joinS_len sep m (y :: r) (fun z hz => h z (List.mem_cons_of_mem _ hz))
    have := h x List.mem_cons_self
    show (x ++ (sep ++ joinS sep (y :: r))).length ≤ _
    rw [List.length_append, List.length_append, List.length_cons, Nat.add_mul]
    omega
theorem mem_comL : ∀ (l : List (List (List UInt8))) (p : List (List UInt8)) (w : List UInt8), p ∈ l → w ∈ p → w ∈ comL l
  | [], p, w, h, _ => absurd h List.not_mem_nil
  | [x], p, w, h, hw => by rw [List.mem_singleton.1 h] at hw; exact hw
  | x :: y :: r, p, w, h, hw => by
    show w ∈ x ++ [44] :: comL (y :: r)
    rcases List.mem_cons.1 h with rfl | h
    · exact List.mem_append.2 (.inl hw)
    · exact List.mem_append.2 (.inr (List.mem_cons_of_mem _ (mem_comL (y :: r) p w h hw)))
/-- A text of a call, by its words. -/
theorem callX_len (nm : List UInt8) (l : List (List UInt8)) (m : Nat) (h0 : nm.length ≤ 300) (h : ∀ x ∈ l, x.length ≤ m) : (callX nm l).length ≤ 302 + l.length * (m + 2) := by
  have := joinS_len [44, 32] m l h
  have h2 : l.length * (m + ([44, 32] : List UInt8).length) = l.length * (m + 2) := rfl
  rw [h2] at this
  unfold callX
  rw [List.length_append, List.length_append, List.length_append]
  simp only [List.length_cons, List.length_nil]
  omega
theorem append_FL {α : Type} {S E : TypeId} {f : α → List Value} {n b : Nat} (hI : IsEl S E f n b) (w : World) (ty : TypeId) (base : Nat) (v : Value) (xs ys : List α) (hown : OwnF E f n w base v xs) (ad : Addr) (c m : Nat) (hm : ys.length = m) (hc : ∀ j u, (ys.flatMap f)[j]? = some u → w.cell? (ad.add j) = some u)
    (hroom : xs.length + m ≤ 1000000) (hbase : base ≤ w.heap.size) :
    ∃ v' w', (Builtin.append_ #[S, S] ty #[v, .slice (some ad) m c]).run Tryz.prog w = .ok v' w' ∧ OwnF E f n w' base v' (xs ++ ys) ∧ w.grownBy w' v.ownBlock ∧ (v'.ownBlock = v.ownBlock ∨ v'.ownBlock = some w.heap.size) := by
  obtain ⟨z, hz0, hzc⟩ := hI.info
  obtain ⟨i, hi, hz, hsize, hby⟩ := info_parts hz0
  have hfew := hI.few
  obtain ⟨v', w', h2, h3, h4, _, h5⟩ := run_append_own_at (P := Tryz.prog) w base S ty E i _ n b hI.under hi hz hsize hby hzc hI.pos v xs.length (xs.flatMap f) hown ad m c (ys.flatMap f)
    (by rw [flatF_len hI.len, hm]) hc (fun u hu => by obtain ⟨x, _, hx⟩ := List.mem_flatMap.1 hu; exact hI.one x u hx) (by unfold maxLen; omega) (Nat.le_trans (Nat.mul_le_mul_left _ hfew) (by omega)) hbase
  refine ⟨v', w', h2, ?_, h4, h5⟩
  unfold OwnF
  rw [List.flatMap_append, List.length_append, hm]
  simpa using h3
theorem wp_append_FL {α : Type} {S E : TypeId} {f : α → List Value} {n b : Nat} (hI : IsEl S E f n b) {ops : Array Oper} {rest : List Oper} {o : Oper} {a : Act} {Q : Exit → Act → World → Prop} (w : World) (hg : o.guard = none) (s x : Operand)
    (ho : o.op = .call { callee := .builtin .append, args := #[s, x], argTypes := #[S, S] })
    (base : Nat) (v : Value) (xs ys : List α) (hs : a.eval s = v) (hown : OwnF E f n w base v xs) (ad : Addr) (c m : Nat) (hm : ys.length = m) (hx : a.eval x = .slice (some ad) m c) (hc : ∀ j u, (ys.flatMap f)[j]? = some u → w.cell? (ad.add j) = some u)
    (hroom : xs.length + m ≤ 1000000) (hbase : base ≤ w.heap.size)
    (h : ∀ v' w', OwnF E f n w' base v' (xs ++ ys) → Below base w w' → w.grownBy w' v.ownBlock → (v'.ownBlock = v.ownBlock ∨ v'.ownBlock = some w.heap.size) → wpList Tryz.prog ops Q rest (a.put o.dst v') w') : wpList Tryz.prog ops Q (o :: rest) a w := by
  refine wpList_plain hg fun K hK => ?_
  obtain ⟨v', w', hrun, h2, h3, h4⟩ := append_FL hI w o.type base v xs ys hown ad c m hm hc hroom hbase
  unfold Oper.wp execOp
  simp only [ho, resolve, invoke, builtin, Sem.run_bind, Sem.run_pure, Result.andThen_ok, List.map_toArray, List.map_cons, List.map_nil, hs, hx, hrun]
  exact hK _ _ (h v' w' h2 ((Below.refl _ _).grown h3 hbase (fun k hk => (hown.lt k hk).1)) h3 h4)
/-- Texts in a block that was just laid. -/
theorem own_lit (w : World) (base : Nat) (xs : List ByteArray) (cs : Array Value) (hcs : cs.toList = xs.flatMap strC) (n : Nat) (hn : xs.length = n) (hb : base ≤ w.heap.size) (hm : n ≤ 1000) : OwnSt (w.alloc (.cells cs 9)) base (.slice (some ⟨w.heap.size, 0, none⟩) n n) xs := by
  subst hn
  have hs : cs.size = xs.length * 1 := by
    have := congrArg List.length hcs
    rw [flatF_len (n := 1) (fun _ => rfl)] at this
    simpa using this
  have h := World.ownsRow_lit (base := base) (e := 9) (size := 1) w cs xs.length hb (by unfold maxLen; omega) hs
  rw [hcs] at h
  exact h

/-- words of a list that was just laid, behind a draw. -/
theorem words_lit (xs : List ByteArray) (cs : Array Value) (hcs : cs.toList = xs.flatMap strC) (m : Nat) (hm : xs.length = m) (h1 : m ≤ 1000) (hl : (joinS [32] (txB xs)).length ≤ 1000000000) (W : World) (n : Nat) (hn : W.heap.size = n) :
    Calls Tryz.prog 49 #[.slice (some ⟨n, 0, none⟩) m m] (W.alloc (.cells cs 9)).drew fun e w' => e = .returned (.string ⟨(joinS [32] (txB xs)).toArray⟩) ∧ Below W.heap.size W w' := by
  subst hn
  have ho := own_lit W 0 xs cs hcs m hm (Nat.zero_le _) h1
  have ho2 : OwnSt (W.alloc (.cells cs 9)).drew 0 (.slice (some ⟨W.heap.size, 0, none⟩) m m) xs := World.ownsRow.drew ho
  refine (p_words _ xs _ ho2.strs (by omega) hl).mono ?_
  rintro e w' ⟨he, hb⟩
  have hb2 : Below W.heap.size W (W.alloc (.cells cs 9)).drew := (one_new W _).drew
  exact ⟨he, hb2.trans (hb.mono hb2.size)⟩

/-- words of a list that was just laid, with nothing behind it. -/
theorem words_lit2 (xs : List ByteArray) (cs : Array Value) (hcs : cs.toList = xs.flatMap strC) (m : Nat) (hm : xs.length = m) (h1 : m ≤ 1000) (hl : (joinS [32] (txB xs)).length ≤ 1000000000) (W : World) (n : Nat) (hn : W.heap.size = n) :
    Calls Tryz.prog 49 #[.slice (some ⟨n, 0, none⟩) m m] (W.alloc (.cells cs 9))  fun e w' => e = .returned (.string ⟨(joinS [32] (txB xs)).toArray⟩) ∧ Below W.heap.size W w' := by
  subst hn
  have ho := own_lit W 0 xs cs hcs m hm (Nat.zero_le _) h1
  refine (p_words _ xs _ ho.strs (by omega) hl).mono ?_
  rintro e w' ⟨he, hb⟩
  have hb2 : Below W.heap.size W (W.alloc (.cells cs 9)) := one_new W _
  exact ⟨he, hb2.trans (hb.mono hb2.size)⟩

set_option maxRecDepth 100000 in
set_option maxHeartbeats 4000000 in
theorem p_terms (A : Option Addr) (c : Nat) (l : List TmP) (w : World) (hv : Vars w) (hl : l.length ≤ 400) (hw : ∀ x ∈ l, Wide x.v) (h : ElsAt TmP.cells 6 w A l) :
    Calls Tryz.prog 125 #[.slice A l.length c] w fun e w' => ∃ v, e = .returned v ∧ OwnSt w' w.heap.size v (l.map fun x => ⟨(tmW x).toArray⟩) ∧ Below w.heap.size w w' := by
  have HV := Lib.hid hv
  have HW := Lib.hid hw
  have HE := Lib.hid h
  clear hv hw h
  go_enter Tryz.func125, Tryz.ntmps125
  go_wp2
  go_loopw [3, 8] (fun v i wr => ∃ (k : Nat), k ≤ l.length ∧ i = .int .i64 k ∧ Hid (OwnSt wr w.heap.size v ((l.take k).map fun x => ⟨(tmW x).toArray⟩)) ∧ Below w.heap.size w wr) (fun _ i _ => l.length - (intOf i).toNat)
  case atStart => exact ⟨0, Nat.zero_le _, rfl, Lib.hid (OwnF.nil _ _), Below.refl _ _⟩
  case round =>
    obtain ⟨k, hk, rfl, HO, hb⟩ := hrel
    have HB := Lib.hid hb
    have hsz := hb.size
    obtain ⟨oA, oc, hov⟩ := HO.out.shape
    have hln : ((l.take k).map fun x => (⟨(tmW x).toArray⟩ : ByteArray)).length = k := by rw [List.length_map, List.length_take]; omega
    rw [hln] at hov
    subst hov
    by_cases hlt : k < l.length
    · obtain ⟨x, hx⟩ : ∃ x, l[k]? = some x := ⟨_, List.getElem?_eq_getElem hlt⟩
      obtain ⟨a, rfl, a0, a1, a2, a3, a4, a5⟩ := els_T (HE.out.below hb) hx
      have HT : Hid (∀ W, Below wr.heap.size wr W → Calls Tryz.prog 25 #[x.val] W fun e w' => e = .returned (.string ⟨(tmW x).toArray⟩) ∧ Below W.heap.size W w') := Lib.hid fun W hW => p_term x W ((HV.out.later HB.out).later hW) (HW.out x (List.mem_of_getElem? hx))
      have HX := Lib.hid hx
      clear hb hx
      obtain ⟨s, ta, ⟨vk, vf, vn, vt⟩⟩ := x
      obtain ⟨y, hy⟩ : ∃ y : ByteArray, y = ⟨(tmW ⟨s, ta, ⟨vk, vf, vn, vt⟩⟩).toArray⟩ := ⟨_, rfl⟩
      have HY := Lib.hid hy
      rw [← hy] at HT
      clear hy
      obtain ⟨ys, hys⟩ : ∃ ys, ys = (l.take k).map fun x => (⟨(tmW x).toArray⟩ : ByteArray) := ⟨_, rfl⟩
      have HYS := Lib.hid hys
      rw [← hys] at HO hln
      clear hys
      have hroom : ys.length ≤ 1000000 := by omega
      go_wp2_with (fail)
      refine (HT.out _ (one_new _ _)).mono ?_
      rintro e w4 ⟨rfl, hb4⟩
      have hb5 := (one_new wr (.cells #[.string s, .bool ta, .int .i64 vk, .bool vf, .int .i64 vn, .string vt] 47)).trans (hb4.mono (one_new wr _).size)
      have H4 := Lib.hid (HO.out.below hb5)
      have HB4 := Lib.hid (HB.out.trans (hb5.mono hsz))
      have hsz4 := HB4.out.size
      clear hb4 hb5 HT a0 a1 a2 a3 a4 a5
      go_wp2_with (at_builtin; refine wp_append_F el_Str _ rfl (.tmp 12) (.tmp 15) rfl w.heap.size _ ys y rfl (by exact H4.out.alloc _) ⟨w4.heap.size, 0, none⟩ 1 rfl (lit_F strC w4 y _ _ rfl) hroom (by simp; omega) ?_; intro v' w6 hown' hb6 hgrow hor; have HO6 := Lib.hid hown'; have HB6 := Lib.hid ((HB4.out.alloc hsz4 (.cells #[.string y] 9)).trans hb6); clear hown' hb6 hgrow hor)
      go_roundw
      case rel =>
        refine ⟨k + 1, by omega, by go_num, Lib.hid ?_, HB6.out⟩
        have e : (l.take (k + 1)).map (fun x => (⟨(tmW x).toArray⟩ : ByteArray)) = ys ++ [y] := by
          rw [List.take_add_one, HX.out, List.map_append, ← HYS.out, HY.out]
          rfl
        rw [e]
        exact HO6.out
      case measure => simp [intOf]; omega
    · have hk' : k = l.length := by omega
      subst hk'
      have HL : Hid (∃ v, v = Value.slice oA l.length oc ∧ OwnSt wr w.heap.size v (l.map fun x => ⟨(tmW x).toArray⟩)) := Lib.hid ⟨_, rfl, by have h := HO.out; rw [List.take_length] at h; exact h⟩
      clear hb HO hln
      go_wp2
      go_ret
      obtain ⟨v, hv, ho⟩ := HL.out
      exact ⟨v, by rw [hv]; rfl, ho, HB.out⟩
end
end Go.Proofs.YtkobfngnnblpeaaGreatDoor
namespace Go.Proofs.YtkobfngnnblpeaaGreatDoor
section
open Go.RowKit

theorem agoX_len (ag : Int) : (agoX ag).length ≤ 300 := by
  unfold agoX
  split
  · decide
  · split
    · decide
    · split
      · decide
      · decide

set_option maxRecDepth 100000 in
set_option maxHeartbeats 400000 in
theorem p_aggregate (k : Int) (nm : ByteArray) (A : Option Addr) (n c : Nat) (ag : Int) (ofv : ByteArray) (lim : Int) (B : Option Addr) (m d : Nat) (w : World) (hof : 1 < ag → ofv.size ≤ 300) :
    Calls Tryz.prog 45 #[.agg #[.int .i64 k, .string nm, .slice A n c, .int .i64 ag, .string ofv, .int .i64 lim, .slice B m d]] w fun e w' => e = .returned (.string ⟨(agX ag ofv).toArray⟩) ∧ Below w.heap.size w w' := by
  by_cases h1 : ag = 1
  · subst h1
    go_enter Tryz.func45, Tryz.ntmps45
    go_wp2
    go_ret
    exact ⟨rfl, one_new _ _⟩
  have b1 : (ag == 1) = false := by simpa using h1
  by_cases h2 : ag < 1
  · have e : agX ag ofv = [] := by unfold agX; rw [if_neg h1, if_pos h2]
    rw [e]
    have d2 : decide (ag < 1) = true := by simpa using h2
    clear e h1
    go_enter Tryz.func45, Tryz.ntmps45
    go_wp2
    go_ret
    exact ⟨rfl, one_new _ _⟩
  · have d2 : decide (ag < 1) = false := by simpa using h2
    have e : agX ag ofv = joinS [32] (txB [⟨(agoX ag).toArray⟩, ofv]) := by unfold agX; rw [if_neg h1, if_neg h2]; rfl
    rw [e]
    have hl : (joinS [32] (txB [⟨(agoX ag).toArray⟩, ofv])).length ≤ 1000000000 := by
      have hx := agoX_len ag
      have ho : ofv.data.toList.length ≤ 300 := hof (by omega)
      have := joinS_len [32] 300 (txB [⟨(agoX ag).toArray⟩, ofv]) (fun x hx => by
        simp only [txB, List.map_cons, List.map_nil, List.mem_cons, List.not_mem_nil, or_false] at hx
        rcases hx with rfl | rfl
        · assumption
        · exact ho)
      have h9 : (txB [⟨(agoX ag).toArray⟩, ofv]).length * (300 + ([32] : List UInt8).length) = 602 := rfl
      omega
    have HW : Hid (∀ (W : World) (n : Nat), W.heap.size = n → Calls Tryz.prog 49 #[.slice (some ⟨n, 0, none⟩) 2 2] (W.alloc (.cells #[.string ⟨(agoX ag).toArray⟩, .string ofv] 9)).drew fun e w' => e = .returned (.string ⟨(joinS [32] (txB [⟨(agoX ag).toArray⟩, ofv])).toArray⟩) ∧ Below W.heap.size W w') := Lib.hid fun W n hn => words_lit [⟨(agoX ag).toArray⟩, ofv] _ rfl 2 rfl (by omega) hl W n hn
    have HA : Hid (∀ W : World, Calls Tryz.prog 88 #[.int .i64 ag] W fun e w' => e = .returned (.string ⟨(agoX ag).toArray⟩) ∧ w' = W) := Lib.hid fun W => p_aggOf ag W
    clear e h1 h2 hl hof
    generalize agoX ag = ao at HW HA ⊢
    generalize joinS [32] (txB [⟨ao.toArray⟩, ofv]) = J at HW ⊢
    go_enter Tryz.func45, Tryz.ntmps45
    go_wp2_with fail
    go_region_with (first
      | (go_at_call 88; refine (HA.out _).mono ?_; rintro e w1 ⟨rfl, rfl⟩)
      | (go_at_call 49; refine (HW.out _ _ (by simp)).mono ?_; rintro e w2 ⟨rfl, hb2⟩; have HB2 := Lib.hid ((one_new w (.cells #[.int .i64 k, .string nm, .slice A n c, .int .i64 ag, .string ofv, .int .i64 lim, .slice B m d] 35)).trans (hb2.mono (one_new w _).size)); clear hb2))
    all_goals
      go_wp2
      go_ret
      exact ⟨rfl, HB2.out⟩

/-- A literal's text is short, where its words are. -/
theorem liX_len (x : LiP) (h : ∀ w ∈ liW x, w.length ≤ 300) (hl : x.args.length ≤ 400) : (liX x).length ≤ 130000 := by
  obtain ⟨n, s, args, o⟩ := x
  have hl' : args.length ≤ 400 := hl
  unfold liX
  by_cases ho : o = 0
  · rw [if_neg (by simpa using ho)]
    unfold liW at h
    rw [if_pos ho] at h
    have h2 : ∀ w ∈ callW s.data.toList (argL args), w.length ≤ 300 := fun w hw => h w (List.mem_append.2 (.inr hw))
    have h3 : s.data.toList.length ≤ 300 := h2 _ List.mem_cons_self
    have h4 : ∀ x ∈ args.map tmW, x.length ≤ 300 := fun x hx => by
      obtain ⟨y, hy, rfl⟩ := List.mem_map.1 hx
      exact h2 _ (List.mem_cons_of_mem _ (List.mem_cons_of_mem _ (List.mem_append.2 (.inl (mem_comL _ [tmW y] _ (List.mem_map.2 ⟨y, hy, rfl⟩) List.mem_cons_self)))))
    have h5 := callX_len s.data.toList (args.map tmW) 300 h3 h4
    rw [List.length_map] at h5
    have h6 : args.length * (300 + 2) ≤ 400 * 302 := Nat.mul_le_mul_right 302 hl'
    split
    · show (wNot ++ ([32] ++ callX s.data.toList (args.map tmW))).length ≤ _
      rw [List.length_append, List.length_append]
      have e1 : wNot.length = 3 := rfl
      have e2 : ([32] : List UInt8).length = 1 := rfl
      omega
    · show (callX s.data.toList (args.map tmW)).length ≤ _
      omega
  · rw [if_pos ho]
    show (cmpX o args).length ≤ _
    unfold liW at h
    rw [if_neg ho] at h
    rcases args with _ | ⟨a, _ | ⟨b, _ | ⟨c, r⟩⟩⟩
    · exact Nat.zero_le _
    · exact Nat.zero_le _
    · have e3 : cmpX o [a, b] = if sgnS o = [] then [] else joinS [32] [tmW a, sgnS o, tmW b] := rfl
      rw [e3]
      split
      · exact Nat.zero_le _
      · have := joinS_len [32] 300 [tmW a, sgnS o, tmW b] h
        have h9 : [tmW a, sgnS o, tmW b].length * (300 + ([32] : List UInt8).length) = 903 := by simp
        rw [h9] at this
        exact Nat.le_trans this (by decide)
    · exact Nat.zero_le _
end
end Go.Proofs.YtkobfngnnblpeaaGreatDoor
namespace Go.Proofs.YtkobfngnnblpeaaGreatDoor
section
open Go.RowKit

theorem txB_tm (l : List TmP) : txB (l.map fun x => (⟨(tmW x).toArray⟩ : ByteArray)) = l.map tmW := by
  unfold txB
  rw [List.map_map]
  exact List.map_congr_left fun x _ => rfl

set_option maxRecDepth 100000 in
set_option maxHeartbeats 400000 in
theorem p_comparison (n : Bool) (s : ByteArray) (A : Option Addr) (c : Nat) (args : List TmP) (o : Int) (w : World) (hv : Vars w) (hw : ∀ a ∈ args, Wide a.v) (h : ElsAt TmP.cells 6 w A args) (hs : ∀ t ∈ cmpW o args, t.length ≤ 300) :
    Calls Tryz.prog 124 #[.agg #[.bool n, .string s, .slice A args.length c, .int .i64 o]] w fun e w' => e = .returned (.string ⟨(cmpX o args).toArray⟩) ∧ Below w.heap.size w w' := by
  have HS : Hid (∀ W, Calls Tryz.prog 145 #[.int .i64 o] W fun e w' => e = .returned (.string ⟨(sgnS o).toArray⟩) ∧ W = w') := Lib.hid fun W => lx_sgn o W
  by_cases h2 : args.length = 2
  case neg =>
    have e : cmpX o args = [] := by
      rcases args with _ | ⟨a, _ | ⟨b, _ | ⟨d, r⟩⟩⟩
      · rfl
      · rfl
      · exact absurd rfl h2
      · rfl
    rw [e]
    have b1 : ((args.length : Int) != 2) = true := by simp; omega
    have b2 : ((args.length : Int) == 2) = false := by simp; omega
    clear e h hs hw hv h2
    go_enter Tryz.func124, Tryz.ntmps124
    go_wp2_with (go_at_call 145; refine (HS.out _).mono ?_; rintro e w1 ⟨rfl, rfl⟩)
    go_ret
    exact ⟨rfl, one_new _ _⟩
  case pos =>
  obtain ⟨a, b, rfl⟩ : ∃ a b, args = [a, b] := by
    rcases args with _ | ⟨a, _ | ⟨b, _ | ⟨d, r⟩⟩⟩
    · exact absurd h2 (by simp)
    · exact absurd h2 (by simp)
    · exact ⟨a, b, rfl⟩
    · exact absurd h2 (by simp)
  have e3 : cmpX o [a, b] = if sgnS o = [] then [] else joinS [32] [tmW a, sgnS o, tmW b] := rfl
  rw [e3]
  clear e3 h2
  have b1 : (((([a, b] : List TmP).length : Nat) : Int) != 2) = false := rfl
  have b2 : (((([a, b] : List TmP).length : Nat) : Int) == 2) = true := rfl
  by_cases h0 : sgnS o = []
  · rw [if_pos h0]
    rw [h0] at HS
    clear h hs hw hv h0
    go_enter Tryz.func124, Tryz.ntmps124
    go_wp2_with (go_at_call 145; refine (HS.out _).mono ?_; rintro e w1 ⟨rfl, rfl⟩)
    go_ret
    exact ⟨rfl, one_new _ _⟩
  · rw [if_neg h0]
    obtain ⟨p, rfl, -⟩ := els_T (i := 0) h rfl
    obtain ⟨W0, hW0⟩ : ∃ W0, W0 = w.alloc (.cells #[.bool n, .string s, .slice (some p) 2 c, .int .i64 o] 50) := ⟨_, rfl⟩
    have hb0 : Below w.heap.size w W0 := by rw [hW0]; exact one_new _ _
    have hbx : W0.heap[w.heap.size]? = some (.cells #[.bool n, .string s, .slice (some p) 2 c, .int .i64 o] 50 (0, 0)) := by rw [hW0]; exact heap_alloc_new _ _
    have hW0s : W0.heap.size = w.heap.size + 1 := by rw [hW0]; exact World.size_alloc _ _
    have HC : Hid (∀ W, Below W0.heap.size W0 W → W.cell? ⟨w.heap.size, 2, none⟩ = some (.slice (some p) 2 c) ∧
        (W.cell? p = some (.string a.s) ∧ W.cell? { block := p.block, off := p.off + 1 } = some (.bool a.a) ∧ W.cell? { block := p.block, off := p.off + 2 } = some (.int .i64 a.v.k) ∧ W.cell? { block := p.block, off := p.off + 3 } = some (.bool a.v.f) ∧ W.cell? { block := p.block, off := p.off + 4 } = some (.int .i64 a.v.n) ∧ W.cell? { block := p.block, off := p.off + 5 } = some (.string a.v.t)) ∧
        (W.cell? { block := p.block, off := p.off + 6 } = some (.string b.s) ∧ W.cell? { block := p.block, off := p.off + 6 + 1 } = some (.bool b.a) ∧ W.cell? { block := p.block, off := p.off + 6 + 2 } = some (.int .i64 b.v.k) ∧ W.cell? { block := p.block, off := p.off + 6 + 3 } = some (.bool b.v.f) ∧ W.cell? { block := p.block, off := p.off + 6 + 4 } = some (.int .i64 b.v.n) ∧ W.cell? { block := p.block, off := p.off + 6 + 5 } = some (.string b.v.t))) := Lib.hid fun W hW => by
      have hE := (h.below hb0).below hW
      obtain ⟨q, hq, x0, x1, x2, x3, x4, x5⟩ := els_T (i := 0) hE rfl
      obtain ⟨q', hq', y0, y1, y2, y3, y4, y5⟩ := els_T (i := 1) hE rfl
      injection hq with hq
      injection hq' with hq'
      subst hq hq'
      refine ⟨cell_of_row _ w.heap.size 2 _ _ (0, 0) ((hW.block w.heap.size (by omega)).trans hbx), ⟨?_, ?_, ?_, ?_, ?_, ?_⟩, ?_, ?_, ?_, ?_, ?_, ?_⟩
      · simpa [Addr.add] using x0
      · simpa [Addr.add] using x1
      · simpa [Addr.add] using x2
      · simpa [Addr.add] using x3
      · simpa [Addr.add] using x4
      · simpa [Addr.add] using x5
      · simpa [Addr.add] using y0
      · simpa [Addr.add] using y1
      · simpa [Addr.add] using y2
      · simpa [Addr.add] using y3
      · simpa [Addr.add] using y4
      · simpa [Addr.add] using y5
    have HTa : Hid (∀ W, Below w.heap.size w W → Calls Tryz.prog 25 #[a.val] W fun e w' => e = .returned (.string ⟨(tmW a).toArray⟩) ∧ Below W.heap.size W w') := Lib.hid fun W hW => p_term a W (hv.later hW) (hw a (by simp))
    have HTb : Hid (∀ W, Below w.heap.size w W → Calls Tryz.prog 25 #[b.val] W fun e w' => e = .returned (.string ⟨(tmW b).toArray⟩) ∧ Below W.heap.size W w') := Lib.hid fun W hW => p_term b W (hv.later hW) (hw b (by simp))
    have hl : (joinS [32] (txB [⟨(tmW a).toArray⟩, ⟨(sgnS o).toArray⟩, ⟨(tmW b).toArray⟩])).length ≤ 1000000000 := by
      have := joinS_len [32] 300 [tmW a, sgnS o, tmW b] hs
      have h9 : [tmW a, sgnS o, tmW b].length * (300 + ([32] : List UInt8).length) = 903 := by simp
      rw [h9] at this
      exact Nat.le_trans this (by decide)
    have HW : Hid (∀ (W : World) (n : Nat), W.heap.size = n → Calls Tryz.prog 49 #[.slice (some ⟨n, 0, none⟩) 3 3] (W.alloc (.cells #[.string ⟨(tmW a).toArray⟩, .string ⟨(sgnS o).toArray⟩, .string ⟨(tmW b).toArray⟩] 9)) fun e w' => e = .returned (.string ⟨(joinS [32] [tmW a, sgnS o, tmW b]).toArray⟩) ∧ Below W.heap.size W w') := Lib.hid fun W n hn => words_lit2 [⟨(tmW a).toArray⟩, ⟨(sgnS o).toArray⟩, ⟨(tmW b).toArray⟩] _ rfl 3 rfl (by omega) hl W n hn
    have b3 : ((⟨(sgnS o).toArray⟩ : ByteArray).toList == []) = false := by rw [ByteArray.toList_eq]; simpa using h0
    clear h hs hw hv hl h0
    generalize joinS [32] [tmW a, sgnS o, tmW b] = J at HW ⊢
    obtain ⟨sa, aa, ⟨avk, avf, avn, avt⟩⟩ := a
    obtain ⟨sb, ba, ⟨bvk, bvf, bvn, bvt⟩⟩ := b
    generalize tmW ⟨sa, aa, ⟨avk, avf, avn, avt⟩⟩ = ta at HTa HW
    generalize tmW ⟨sb, ba, ⟨bvk, bvf, bvn, bvt⟩⟩ = tb at HTb HW
    obtain ⟨sg, hsg⟩ : ∃ sg : ByteArray, (⟨(sgnS o).toArray⟩ : ByteArray) = sg := ⟨_, rfl⟩
    rw [hsg] at HS HW b3
    clear hsg
    subst hW0
    have HB0 := Lib.hid hb0
    clear hb0 hbx hW0s
    obtain ⟨e2, ⟨a0, a1, a2, a3, a4, a5⟩, ⟨f0, f1, f2, f3, f4, f5⟩⟩ := HC.out _ (Below.refl _ _)
    go_enter Tryz.func124, Tryz.ntmps124
    go_wp2_with (go_at_call 145; refine (HS.out _).mono ?_; rintro e w1 ⟨rfl, rfl⟩)
    go_region_held3 (fun w' : World => w'.cell? ⟨w.heap.size, 2, none⟩ = some (Value.slice (some p) 2 c) ∧ w'.cell? p = some (Value.string sa) ∧ w'.cell? { block := p.block, off := p.off + 1 } = some (Value.bool aa) ∧ w'.cell? { block := p.block, off := p.off + 2 } = some (Value.int .i64 avk) ∧ w'.cell? { block := p.block, off := p.off + 3 } = some (Value.bool avf) ∧ w'.cell? { block := p.block, off := p.off + 4 } = some (Value.int .i64 avn) ∧ w'.cell? { block := p.block, off := p.off + 5 } = some (Value.string avt) ∧ w'.cell? { block := p.block, off := p.off + 6 } = some (Value.string sb) ∧ w'.cell? { block := p.block, off := p.off + 6 + 1 } = some (Value.bool ba) ∧ w'.cell? { block := p.block, off := p.off + 6 + 2 } = some (Value.int .i64 bvk) ∧ w'.cell? { block := p.block, off := p.off + 6 + 3 } = some (Value.bool bvf) ∧ w'.cell? { block := p.block, off := p.off + 6 + 4 } = some (Value.int .i64 bvn) ∧ w'.cell? { block := p.block, off := p.off + 6 + 5 } = some (Value.string bvt)) (go_keep)
      (first
        | (go_at_call 25; refine (HTa.out _ (by exact HB0.out.drew)).mono ?_; rintro e w1 ⟨rfl, hb1⟩; have HB1 := Lib.hid ((Below.refl _ _).drew.trans hb1); have HB1w := Lib.hid (HB0.out.trans (HB1.out.mono HB0.out.size)); obtain ⟨c2, ⟨g0, g1, g2, g3, g4, g5⟩, ⟨b0, d1, d2, d3, d4, d5⟩⟩ := HC.out _ HB1.out; clear HTa hb1)
        | (go_at_call 25; refine (HTb.out _ HB1w.out).mono ?_; rintro e w2 ⟨rfl, hb2⟩; have HB2 := Lib.hid (HB1w.out.trans (hb2.mono HB1w.out.size)); have HB2c := Lib.hid (HB1.out.trans (hb2.mono HB1.out.size)); obtain ⟨c3, ⟨i0, i1, i2, i3, i4, i5⟩, ⟨j0, j1, j2, j3, j4, j5⟩⟩ := HC.out _ HB2c.out; clear HTb hb2)
        | (go_at_call 49; refine (HW.out _ _ rfl).mono ?_; rintro e w3 ⟨rfl, hb3⟩; have HB3 := Lib.hid (HB2.out.trans (hb3.mono HB2.out.size)); have HB3c := Lib.hid (HB2c.out.trans (hb3.mono HB2c.out.size)); obtain ⟨c4, ⟨k0, k1, k2, k3, k4, k5⟩, ⟨l0, l1, l2, l3, l4, l5⟩⟩ := HC.out _ HB3c.out; clear hb3 HW))
    all_goals
      go_wp2
      go_ret
      exact ⟨rfl, HB3.out⟩

set_option maxRecDepth 100000 in
set_option maxHeartbeats 1000000 in
theorem p_literal (n : Bool) (s : ByteArray) (A : Option Addr) (c : Nat) (args : List TmP) (o : Int) (w : World) (hv : Vars w) (hl : args.length ≤ 400) (hw : ∀ a ∈ args, Wide a.v) (h : ElsAt TmP.cells 6 w A args) (hs : ∀ t ∈ liW ⟨n, s, args, o⟩, t.length ≤ 300) :
    Calls Tryz.prog 91 #[.agg #[.bool n, .string s, .slice A args.length c, .int .i64 o]] w fun e w' => e = .returned (.string ⟨(liX ⟨n, s, args, o⟩).toArray⟩) ∧ Below w.heap.size w w' := by
  by_cases ho : o = 0
  case neg =>
    have e1 : liX ⟨n, s, args, o⟩ = cmpX o args := if_pos ho
    have e2 : liW ⟨n, s, args, o⟩ = cmpW o args := if_neg ho
    rw [e1]
    rw [e2] at hs
    have HC : Hid (∀ W, Below w.heap.size w W → Calls Tryz.prog 124 #[.agg #[.bool n, .string s, .slice A args.length c, .int .i64 o]] W fun e w' => e = .returned (.string ⟨(cmpX o args).toArray⟩) ∧ Below W.heap.size W w') := Lib.hid fun W hW => p_comparison n s A c args o W (hv.later hW) hw (h.below hW) hs
    have b1 : (o != 0) = true := by simpa using ho
    have b2 : (o == 0) = false := by simpa using ho
    clear e1 e2 hs hw h hv ho
    generalize cmpX o args = J at HC ⊢
    go_enter Tryz.func91, Tryz.ntmps91
    go_wp2_with (go_at_call 124; refine (HC.out _ (one_new _ _)).mono ?_; rintro e w1 ⟨rfl, hb⟩; have HB := Lib.hid ((one_new w (.cells #[.bool n, .string s, .slice A args.length c, .int .i64 o] 50)).trans (hb.mono (one_new w _).size)); clear hb)
    go_ret
    exact ⟨rfl, HB.out⟩
  case pos =>
  subst ho
  have HT : Hid (∀ W, Below w.heap.size w W → Calls Tryz.prog 125 #[.slice A args.length c] W fun e w' => ∃ v, e = .returned v ∧ OwnSt w' W.heap.size v (args.map fun x => ⟨(tmW x).toArray⟩) ∧ Below W.heap.size W w') := Lib.hid fun W hW => p_terms A c args W (hv.later hW) hl hw (h.below hW)
  have e2 : liW ⟨n, s, args, 0⟩ = (if n = true then [wNot] else []) ++ callW s.data.toList (argL args) := if_pos rfl
  have h2 : ∀ t ∈ callW s.data.toList (argL args), t.length ≤ 300 := fun t ht => hs t (by rw [e2]; exact List.mem_append.2 (.inr ht))
  have h3 : s.data.toList.length ≤ 300 := h2 _ List.mem_cons_self
  have h4 : ∀ x ∈ args.map tmW, x.length ≤ 300 := fun x hx => by
    obtain ⟨y, hy, rfl⟩ := List.mem_map.1 hx
    exact h2 _ (List.mem_cons_of_mem _ (List.mem_cons_of_mem _ (List.mem_append.2 (.inl (mem_comL _ [tmW y] _ (List.mem_map.2 ⟨y, hy, rfl⟩) List.mem_cons_self)))))
  have h5 := callX_len s.data.toList (args.map tmW) 300 h3 h4
  have h6 : args.length * (300 + 2) ≤ 400 * 302 := Nat.mul_le_mul_right 302 hl
  have h7 := joinS_len [44, 32] 300 (args.map tmW) h4
  rw [List.length_map] at h5 h7
  have h8 : args.length * (300 + ([44, 32] : List UInt8).length) = args.length * (300 + 2) := rfl
  have HCl : Hid (∀ W v, StrsAt W v (args.map fun x => ⟨(tmW x).toArray⟩) → Calls Tryz.prog 47 #[.string s, v] W fun e w' => e = .returned (.string ⟨(callX s.data.toList (args.map tmW)).toArray⟩) ∧ Below W.heap.size W w') := Lib.hid fun W v hW => by
    have h9 := p_call s v (args.map fun x => ⟨(tmW x).toArray⟩) W hW (by rw [List.length_map]; omega) (by rw [txB_tm]; omega) (by have : s.data.toList.length = s.size := rfl; omega)
    rw [txB_tm] at h9
    exact h9
  obtain ⟨ys, hys⟩ : ∃ ys, ys = args.map fun x => (⟨(tmW x).toArray⟩ : ByteArray) := ⟨_, rfl⟩
  rw [← hys] at HT HCl
  clear hys h2 h3 h4 h6 h7 h8 hs e2 hv hw h
  obtain ⟨W0, hW0⟩ : ∃ W0, W0 = w.alloc (.cells #[.bool n, .string s, .slice A args.length c, .int .i64 0] 50) := ⟨_, rfl⟩
  have hb0 : Below w.heap.size w W0 := by rw [hW0]; exact one_new _ _
  have hbx : W0.heap[w.heap.size]? = some (.cells #[.bool n, .string s, .slice A args.length c, .int .i64 0] 50 (0, 0)) := by rw [hW0]; exact heap_alloc_new _ _
  have hW0s : W0.heap.size = w.heap.size + 1 := by rw [hW0]; exact World.size_alloc _ _
  have HC : Hid (∀ W, Below W0.heap.size W0 W → W.cell? ⟨w.heap.size, 1, none⟩ = some (.string s) ∧ W.cell? ⟨w.heap.size, 2, none⟩ = some (.slice A args.length c)) := Lib.hid fun W hW => by
    have hk := (hW.block w.heap.size (by omega)).trans hbx
    exact ⟨cell_of_row _ w.heap.size 1 _ _ (0, 0) hk, cell_of_row _ w.heap.size 2 _ _ (0, 0) hk⟩
  subst hW0
  have HB0 := Lib.hid hb0
  obtain ⟨m1, m2⟩ := HC.out _ (Below.refl _ _)
  clear hb0 hbx hW0s
  cases n with
  | true =>
    have e1 : liX ⟨true, s, args, 0⟩ = joinS [32] (txB [⟨#[110, 111, 116]⟩, ⟨(callX s.data.toList (args.map tmW)).toArray⟩]) := by
      unfold liX
      rw [if_neg (by simp), if_pos rfl]
      rfl
    rw [e1]
    have hjl : (joinS [32] (txB [⟨#[110, 111, 116]⟩, ⟨(callX s.data.toList (args.map tmW)).toArray⟩])).length ≤ 1000000000 := by
      show ([110, 111, 116] ++ ([32] ++ callX s.data.toList (args.map tmW))).length ≤ _
      rw [List.length_append, List.length_append]
      simp only [List.length_cons, List.length_nil]
      omega
    have HW : Hid (∀ (W : World) (k : Nat), W.heap.size = k → Calls Tryz.prog 49 #[.slice (some ⟨k, 0, none⟩) 2 2] (W.alloc (.cells #[.string ⟨#[110, 111, 116]⟩, .string ⟨(callX s.data.toList (args.map tmW)).toArray⟩] 9)) fun e w' => e = .returned (.string ⟨(joinS [32] (txB [⟨#[110, 111, 116]⟩, ⟨(callX s.data.toList (args.map tmW)).toArray⟩])).toArray⟩) ∧ Below W.heap.size W w') := Lib.hid fun W k hk => words_lit2 [⟨#[110, 111, 116]⟩, ⟨(callX s.data.toList (args.map tmW)).toArray⟩] _ rfl 2 rfl (by omega) hjl W k hk
    clear e1 hjl h5
    generalize (⟨(callX s.data.toList (args.map tmW)).toArray⟩ : ByteArray) = cx at HCl HW ⊢
    generalize joinS [32] (txB [⟨#[110, 111, 116]⟩, cx]) = J at HW ⊢
    go_enter Tryz.func91, Tryz.ntmps91
    go_wp2_with fail
    go_region_held3 (fun w' : World => w'.cell? ⟨w.heap.size, 1, none⟩ = some (Value.string s) ∧ w'.cell? ⟨w.heap.size, 2, none⟩ = some (Value.slice A args.length c)) (go_keep)
      (first
        | (go_at_call 125; refine (HT.out _ (by exact HB0.out.drew)).mono ?_; rintro e w1 ⟨v, rfl, ho1, hb1⟩; have HB1 := Lib.hid ((Below.refl _ _).drew.trans hb1); obtain ⟨A1, c1, rfl⟩ := ho1.shape; have HO1 := Lib.hid (OwnF.strs ho1); obtain ⟨x1, x2⟩ := HC.out _ HB1.out; clear HT hb1 ho1)
        | (go_at_call 47; refine (HCl.out _ _ HO1.out).mono ?_; rintro e w2 ⟨rfl, hb2⟩; have HB2 := Lib.hid (HB1.out.trans (hb2.mono HB1.out.size)); obtain ⟨y1, y2⟩ := HC.out _ HB2.out; clear HCl hb2)
        | (go_at_call 49; refine (HW.out _ _ rfl).mono ?_; rintro e w3 ⟨rfl, hb3⟩; have HB3 := Lib.hid (HB2.out.trans (hb3.mono HB2.out.size)); obtain ⟨z1, z2⟩ := HC.out _ HB3.out; clear hb3 HW))
    all_goals
      have HB4 := Lib.hid (HB0.out.trans (HB3.out.mono HB0.out.size))
      go_wp2
      go_ret
      exact ⟨rfl, HB4.out⟩
  | false =>
    have e1 : liX ⟨false, s, args, 0⟩ = callX s.data.toList (args.map tmW) := by
      unfold liX
      rw [if_neg (by simp), if_neg (by simp)]
    rw [e1]
    clear e1 h5
    generalize (⟨(callX s.data.toList (args.map tmW)).toArray⟩ : ByteArray) = cx at HCl ⊢
    go_enter Tryz.func91, Tryz.ntmps91
    go_wp2_with fail
    go_region_held3 (fun w' : World => w'.cell? ⟨w.heap.size, 1, none⟩ = some (Value.string s) ∧ w'.cell? ⟨w.heap.size, 2, none⟩ = some (Value.slice A args.length c)) (go_keep)
      (first
        | (go_at_call 125; refine (HT.out _ (by exact HB0.out.drew)).mono ?_; rintro e w1 ⟨v, rfl, ho1, hb1⟩; have HB1 := Lib.hid ((Below.refl _ _).drew.trans hb1); obtain ⟨A1, c1, rfl⟩ := ho1.shape; have HO1 := Lib.hid (OwnF.strs ho1); obtain ⟨x1, x2⟩ := HC.out _ HB1.out; clear HT hb1 ho1)
        | (go_at_call 47; refine (HCl.out _ _ HO1.out).mono ?_; rintro e w2 ⟨rfl, hb2⟩; have HB2 := Lib.hid (HB1.out.trans (hb2.mono HB1.out.size)); obtain ⟨y1, y2⟩ := HC.out _ HB2.out; clear HCl hb2))
    all_goals
      have HB4 := Lib.hid (HB0.out.trans (HB2.out.mono HB0.out.size))
      go_wp2
      go_ret
      exact ⟨rfl, HB4.out⟩
end
end Go.Proofs.YtkobfngnnblpeaaGreatDoor
