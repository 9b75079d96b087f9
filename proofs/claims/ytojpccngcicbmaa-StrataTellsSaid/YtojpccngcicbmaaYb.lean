/-
  Lists of texts in memory: of one's own, and any; two that are one are alike to the document.
-/
import Derived.Test.YtojpccngcicbmaaOwn
import Derived.Test.YtojpccngcicbmaaYa
import Derived.RangeFuncBox
import Derived.OwnWalkIn
namespace Go.Proofs.Ytojpccngcicbmaa
open Go.RowKit Go.Maps

theorem new_cellT (w : World) (cs : Array Value) (t : TypeId) (i : Nat) : (w.alloc (.cells cs t)).cell? ⟨w.heap.size, i, none⟩ = cs[i]? := by
  unfold World.cell?
  rw [(Go.MapKept.heap_alloc w (.cells cs t)).1]
  rfl
theorem cell_rowT (w : World) (b : Nat) (v : Value) (t : TypeId) (h : w.heap[b]? = some (.cells #[v] t (0, 0))) : w.cell? ⟨b, 0, none⟩ = some v := by
  unfold World.cell?
  simp [h]
/-- v is a list of texts of the call's own. -/
def OwnL (w : World) (base : Nat) (v : Value) (ss : List ByteArray) : Prop := w.ownsRow base 9 1 v ss.length (ss.map Value.string)
theorem OwnL.nil (w : World) (base : Nat) : OwnL w base (.slice none 0 0) [] := World.ownsRow_nil w base _ _
theorem OwnL.kept {w w' : World} {base : Nat} {v : Value} {ss : List ByteArray} {row : Option Nat} (h : OwnL w base v ss) (hg : w.grownBy w' row) (hr : ∀ r, row = some r → ∃ o : Obj, w.heap[r]? = some o ∧ o.isCells = false) : OwnL w' base v ss := by
  refine World.ownsRow.kept h hg ?_
  rcases h.2 with ⟨rfl, _⟩ | ⟨g, cap, cur, rfl, _, hgb, _⟩
  · exact .inl rfl
  · refine .inr fun e' => ?_
    obtain ⟨o, ho, hc⟩ := hr g (by simpa [Value.ownBlock] using e'.symm)
    rw [hgb] at ho
    cases ho
    cases hc
theorem OwnL.lower {w : World} {base b2 : Nat} {v : Value} {ss : List ByteArray} (h : OwnL w base v ss) (hb : b2 ≤ base) : OwnL w b2 v ss := by
  refine ⟨h.1, ?_⟩
  rcases h.2 with hn | ⟨g, cap, cur, hv, hg, hh, r⟩
  · exact Or.inl hn
  · exact Or.inr ⟨g, cap, cur, hv, Nat.le_trans hb hg, hh, r⟩
theorem info_X : (Try.prog.info? 9).map (fun i => (i.zero, i.size, i.bytes)) = some (some (.string ⟨#[]⟩), 1, 16) := by kernel_rfl
theorem lit_X (w : World) (v : Value) (ty : TypeId) : ∀ j u, [v][j]? = some u → (w.alloc (.cells #[v] ty)).cell? ((⟨w.heap.size, 0, none⟩ : Addr).add j) = some u := by
  intro j u hj
  cases j with
  | zero =>
    have e : v = u := by simpa using hj
    subst e
    exact new_cellT _ _ _ 0
  | succ j => simp at hj
theorem OwnL.form {w : World} {base : Nat} {v : Value} {ss : List ByteArray} (h : OwnL w base v ss) : ∃ A c, v = .slice A ss.length c := by
  rcases h.2 with ⟨rfl, hn⟩ | ⟨g, cap, cur, rfl, _, _, _, _⟩
  · have hl : ss.length = 0 := by first | omega | simpa using hn
    exact ⟨none, 0, by rw [hl]⟩
  · exact ⟨_, cap, rfl⟩
/-- Texts lie at A. -/
def TxsAt (w : World) (A : Option Addr) (ss : List ByteArray) : Prop := ∀ (j : Nat) (s : ByteArray), ss[j]? = some s → ∃ a : Addr, A = some a ∧ w.cell? (a.add j) = some (.string s)
theorem TxsAt.below {w w' : World} {A : Option Addr} {ss : List ByteArray} (h : TxsAt w A ss) (hb : Below w.heap.size w w') : TxsAt w' A ss := by
  intro j u hj
  obtain ⟨a, ha, hc⟩ := h j u hj
  exact ⟨a, ha, (hb.cell (World.block_lt_of_cell? w _ hc)).trans hc⟩
theorem OwnL.slice {w : World} {base : Nat} {v : Value} {ss : List ByteArray} (h : OwnL w base v ss) : ∃ A c, v = .slice A ss.length c ∧ (A = none → c = 0) ∧ ss.length ≤ c ∧ TxsAt w A ss ∧ ∀ a, A = some a → ∃ g, a = ⟨g, 0, none⟩ := by
  rcases h.2 with ⟨rfl, hn⟩ | ⟨g, cap, cur, rfl, hb, hg, hcap, _⟩
  · refine ⟨none, 0, by rw [hn], fun _ => rfl, by omega, fun j u hj => ?_, fun a h => by cases h⟩
    have h1 := (List.getElem?_eq_some_iff.1 hj).1
    omega
  · exact ⟨_, _, rfl, fun h => by simp at h, hcap, fun j s hj => ⟨_, rfl, World.ownsRow.cells h (g := g) rfl _ _ (by rw [List.getElem?_map, hj]; rfl)⟩, fun a h => by cases h; exact ⟨_, rfl⟩⟩
theorem TxsAt.head {w : World} {A : Option Addr} {ss : List ByteArray} (h : TxsAt w A ss) (hag : ∀ a, A = some a → ∃ g, a = ⟨g, 0, none⟩) (hne : 0 < ss.length) : ∃ g, A = some ⟨g, 0, none⟩ := by
  obtain ⟨a, ha, _⟩ := h 0 _ (List.getElem?_eq_getElem hne)
  obtain ⟨g, rfl⟩ := hag a ha
  exact ⟨g, ha⟩
theorem TxsAt.at {w : World} {g : Nat} {ss : List ByteArray} (h : TxsAt w (some ⟨g, 0, none⟩) ss) (i : Nat) (s : ByteArray) (hx : ss[i]? = some s) : w.cell? ⟨g, i, none⟩ = some (.string s) := by
  obtain ⟨a, ha, hc⟩ := h i s hx
  injection ha with ha
  subst ha
  have e : (⟨g, 0, none⟩ : Addr).add i = ⟨g, i, none⟩ := by unfold Addr.add; split <;> simp_all
  rw [e] at hc
  exact hc
theorem OwnL.below {w w' : World} {base B : Nat} {v : Value} {zs : List ByteArray} (h : OwnL w base v zs) (hb : Below B w w') (hB : w.heap.size ≤ B) : OwnL w' base v zs := by
  refine ⟨h.1, ?_⟩
  rcases h.2 with hn | ⟨g, cap, cur, hv, hg, hh, r⟩
  · exact Or.inl hn
  · have hlt : g < w.heap.size := (Array.getElem?_eq_some_iff.1 hh).1
    exact Or.inr ⟨g, cap, cur, hv, hg, (hb.block g (by omega)).trans hh, r⟩
theorem wp_append_L {ops : Array Oper} {rest : List Oper} {o : Oper} {a : Act} {Q : Exit → Act → World → Prop} (w : World) (hgd : o.guard = none) (s x : Operand)
    (ho : o.op = .call { callee := .builtin .append, args := #[s, x], argTypes := #[26, 26] })
    (base : Nat) (v : Value) (xs : List ByteArray) (p : ByteArray) (hs : a.eval s = v) (hown : OwnL w base v xs) (ad : Addr) (c : Nat) (hx : a.eval x = .slice (some ad) 1 c) (hr : w.cell? ad = some (.string p))
    (hroom : xs.length ≤ 3000000) (hbase : base ≤ w.heap.size)
    (h : ∀ v' w', OwnL w' base v' (xs ++ [p]) → Below base w w' → wpList Try.prog ops Q rest (a.put o.dst v') w') : wpList Try.prog ops Q (o :: rest) a w := by
  refine wpList_plain hgd fun K hK => ?_
  obtain ⟨i, hi, hz, hsize, hby⟩ := info_parts info_X
  obtain ⟨v', w', hrun, h3, h4, _, _⟩ := run_append_own_at (P := Try.prog) w base 26 o.type 9 i _ 1 16 Try.underlying26 hi hz hsize hby rfl (by omega) v xs.length (xs.map Value.string) hown ad 1 c [.string p]
      rfl (fun j u hj => by
        cases j with
        | zero =>
          have e : Value.string p = u := by simpa using hj
          subst e
          rw [show ad.add 0 = ad from by simp [Addr.add]]
          exact hr
        | succ j => simp at hj) (by intro u hu; rw [List.mem_singleton.1 hu]; rfl) (by unfold maxLen; omega) (by omega) hbase
  unfold Oper.wp execOp
  simp only [ho, resolve, invoke, builtin, Sem.run_bind, Sem.run_pure, Result.andThen_ok, List.map_toArray, List.map_cons, List.map_nil, hs, hx, hrun]
  refine hK _ _ (h v' w' ?_ ((Below.refl _ _).grown h4 hbase (fun k hk => (World.ownsRow.lt hown k hk).1)))
  unfold OwnL
  rw [List.length_append, List.map_append]
  exact h3
theorem lit_texts (w : World) (cs : Array Value) (ss : List ByteArray) (g : Nat) (hg : g = w.heap.size) (h : cs.toList = ss.map Value.string) : TxsAt (w.alloc (.cells cs 9)) (some ⟨g, 0, none⟩) ss := by
  subst hg
  intro i z hi
  have ha : (⟨w.heap.size, 0, none⟩ : Addr).add i = ⟨w.heap.size, i, none⟩ := by unfold Addr.add; split <;> simp_all
  refine ⟨_, rfl, ?_⟩
  rw [ha, new_cellT, ← Array.getElem?_toList, h, List.getElem?_map, hi]
  rfl
set_option maxRecDepth 100000 in
set_option maxHeartbeats 2000000 in
theorem r_texts (ss : List ByteArray) (A B : Option Addr) (c d : Nat) (w : World) (hl : ss.length ≤ 1000) (hA : TxsAt w A ss) (hag : ∀ a, A = some a → ∃ g, a = ⟨g, 0, none⟩) (hB : TxsAt w B ss) (hbg : ∀ a, B = some a → ∃ g, a = ⟨g, 0, none⟩) :
    Calls Try.prog 7 #[.slice A ss.length c, .slice B ss.length d] w fun e w' => e = .returned (.bool true) ∧ Below w.heap.size w w' := by
  have HA := Lib.hid hA
  have HAG := Lib.hid hag
  have HBT := Lib.hid hB
  have HBG := Lib.hid hbg
  clear hA hag hB hbg
  go_enter Try.func7, Try.ntmps7
  go_wp2
  go_loopw [5] (fun i wr => ∃ k : Nat, i = .int .i64 k ∧ k ≤ ss.length ∧ Below w.heap.size w wr) (fun i _ => ss.length - (intOf i).toNat)
  case atStart => exact ⟨0, rfl, by omega, Below.refl _ _⟩
  case round =>
    obtain ⟨k, rfl, hk, hb⟩ := hrel
    have HB := Lib.hid hb
    have hta := HA.out.below hb
    have htb := HBT.out.below hb
    clear hb
    by_cases hlt : k < ss.length
    · obtain ⟨g, rfl⟩ := hta.head HAG.out (by omega)
      obtain ⟨h, rfl⟩ := htb.head HBG.out (by omega)
      obtain ⟨x, hx⟩ : ∃ x, ss[k]? = some x := ⟨_, List.getElem?_eq_getElem hlt⟩
      have c0 := hta.at k _ hx
      have d0 := htb.at k _ hx
      clear hta htb hx
      go_wp2
      go_quiet (fail)
      go_wp2
      go_roundw
      case rel => exact ⟨k + 1, by go_num, by omega, below_drewN' HB.out _⟩
      case measure => simp [intOf]; omega
    · go_wp2
      go_ret
      exact ⟨rfl, HB.out⟩
end Go.Proofs.Ytojpccngcicbmaa
