/-
  The statement's asks: a rule of a name that asks others, in memory of its own.
  Condition: no more than twenty names.
-/
import Derived.Test.YtojpccngcicbmaaYd
import Derived.Deep.RegionLaw
import Derived.RangeFuncBox
namespace Go.Proofs.Ytojpccngcicbmaa
open Go.RowKit Go.Maps

def Lm.cells (x : Lm) : List Value := [.bool x.n, .string x.s, .slice x.A x.m x.c, .int .i64 x.o]
def flatM (ls : List Lm) : List Value := ls.flatMap Lm.cells
theorem flatM_len (ls : List Lm) : (flatM ls).length = ls.length * 4 := by
  unfold flatM
  induction ls with
  | nil => rfl
  | cons x ls ih => rw [List.flatMap_cons, List.length_append, ih, List.length_cons]; simp [Lm.cells]; omega
theorem flatM_at : ∀ (ls : List Lm) (i : Nat) (x : Lm), ls[i]? = some x → ∀ j u, x.cells[j]? = some u → (flatM ls)[i * 4 + j]? = some u := by
  intro ls
  induction ls with
  | nil => intro i x h; simp at h
  | cons y ls ih =>
    intro i x h j u hj
    unfold flatM
    rw [List.flatMap_cons]
    cases i with
    | zero =>
      have e : y = x := by simpa using h
      subst e
      rw [List.getElem?_append_left (by have := (List.getElem?_eq_some_iff.1 hj).1; omega)]
      simpa using hj
    | succ i =>
      have hy : y.cells.length = 4 := rfl
      rw [List.getElem?_append_right (by omega)]
      have := ih i x (by simpa using h) j u hj
      unfold flatM at this
      rw [← this]
      congr 1
      omega
/-- Literals in a list of the call's own. -/
def OwnM (w : World) (base : Nat) (v : Value) (ls : List Lm) : Prop := w.ownsRow base 45 4 v ls.length (flatM ls)
theorem OwnM.nil (w : World) (base : Nat) : OwnM w base (.slice none 0 0) [] := World.ownsRow_nil w base _ _
theorem OwnM.form {w : World} {base : Nat} {v : Value} {ls : List Lm} (h : OwnM w base v ls) : ∃ A c, v = .slice A ls.length c := by
  rcases h.2 with ⟨rfl, hn⟩ | ⟨g, cap, cur, rfl, _, _, _, _⟩
  · have hl : ls.length = 0 := by first | omega | simpa using hn
    exact ⟨none, 0, by rw [hl]⟩
  · exact ⟨_, cap, rfl⟩
theorem OwnM.byBlock {w w' : World} {base : Nat} {v : Value} {ls : List Lm} (h : OwnM w base v ls) (hb : ∀ k, v.ownBlock = some k → w'.heap[k]? = w.heap[k]?) : OwnM w' base v ls := by
  refine ⟨h.1, ?_⟩
  rcases h.2 with hn | ⟨g, cap, cur, hv, hg, hh, r⟩
  · exact Or.inl hn
  · exact Or.inr ⟨g, cap, cur, hv, hg, (hb g (by rw [hv]; rfl)).trans hh, r⟩
theorem OwnM.lms {w : World} {base : Nat} {v : Value} {ls : List Lm} (h : OwnM w base v ls) : ∃ A c, v = .slice A ls.length c ∧ LmsAt w A ls ∧ ∀ a, A = some a → base ≤ a.block := by
  rcases h.2 with ⟨rfl, hn⟩ | ⟨g, cap, cur, rfl, hb, hg, hcap, _⟩
  · have hl : ls = [] := List.eq_nil_of_length_eq_zero (by first | omega | simpa using hn)
    subst hl
    exact ⟨none, 0, rfl, fun i x hi => by simp at hi, fun a h => by cases h⟩
  · refine ⟨_, _, rfl, fun i x hi => ⟨_, rfl, ?_⟩, fun a h => by cases h; exact hb⟩
    have hq : ∀ j u, x.cells[j]? = some u → w.cell? ⟨g, i * 4 + j, none⟩ = some u := fun j u hj => by
      have := World.ownsRow.cells h (g := g) rfl _ _ (flatM_at ls i x hi j u hj)
      have e : (⟨g, 0, none⟩ : Addr).add (i * 4 + j) = ⟨g, i * 4 + j, none⟩ := by unfold Addr.add; split <;> simp_all
      rwa [e] at this
    have e : (⟨g, 0, none⟩ : Addr).add (i * 4) = ⟨g, i * 4, none⟩ := by unfold Addr.add; split <;> simp_all
    rw [e]
    exact ⟨hq 0 _ rfl, hq 1 _ rfl, hq 2 _ rfl, hq 3 _ rfl⟩
theorem info_M : (Try.prog.info? 45).map (fun i => (i.zero, i.size, i.bytes)) = some (some (.agg #[.bool false, .string ⟨#[]⟩, .slice none 0 0, .int .i64 0]), 4, 56) := by kernel_rfl

set_option maxRecDepth 10000 in
theorem step_append_M {ops : Array Oper} {o : Oper} {a : Act} {K : Act → World → Prop} {Q : Exit → Act → World → Prop} {E : Prop} (w : World) (hgd : o.guard = none) (s x : Operand)
    (ho : o.op = .call { callee := .builtin .append, args := #[s, x], argTypes := #[28, 28] })
    (base : Nat) (v : Value) (xs : List Lm) (p : Lm) (hs : a.eval s = v) (hown : OwnM w base v xs) (ad : Addr) (c : Nat) (hx : a.eval x = .slice (some ad) 1 c) (hr : ∀ j u, p.cells[j]? = some u → w.cell? (ad.add j) = some u)
    (hroom : xs.length ≤ 100000) (hbase : base ≤ w.heap.size)
    (h : ∀ v' w', OwnM w' base v' (xs ++ [p]) → Below base w w' → w.grownBy w' v.ownBlock → (v'.ownBlock = v.ownBlock ∨ v'.ownBlock = some w.heap.size) → K (a.put o.dst v') w') : if Region.wanted o (yielded ops a.tmps) = true then Oper.wp Try.prog o a w K Q else E := by
  rw [if_pos (by unfold Region.wanted; rw [hgd])]
  obtain ⟨i, hi, hz, hsize, hby⟩ := info_parts info_M
  obtain ⟨v', w', hrun, h3, h4, _, h5⟩ := run_append_own_at (P := Try.prog) w base 28 o.type 45 i _ 4 56 Try.underlying28 hi hz hsize hby rfl (by omega) v xs.length (flatM xs) hown ad 1 c p.cells
      rfl hr (by intro u hu; simp only [Lm.cells, List.mem_cons, List.not_mem_nil, or_false] at hu; rcases hu with rfl | rfl | rfl | rfl <;> rfl) (by unfold maxLen; omega) (by omega) hbase
  unfold Oper.wp execOp
  simp only [ho, resolve, invoke, builtin, Sem.run_bind, Sem.run_pure, Result.andThen_ok, List.map_toArray, List.map_cons, List.map_nil, hs, hx, hrun]
  refine h v' w' ?_ ((Below.refl _ _).grown h4 hbase (fun k hk => (World.ownsRow.lt hown k hk).1)) h4 h5
  unfold OwnM
  rw [List.length_append]
  have e : flatM (xs ++ [p]) = flatM xs ++ p.cells := by unfold flatM; rw [List.flatMap_append]; simp
  rw [e]
  exact h3
theorem lit_M (w : World) (x : Lm) (ty : TypeId) : ∀ j u, x.cells[j]? = some u → (w.alloc (.cells #[.bool x.n, .string x.s, .slice x.A x.m x.c, .int .i64 x.o] ty)).cell? ((⟨w.heap.size, 0, none⟩ : Addr).add j) = some u := by
  intro j u hj
  have e : (⟨w.heap.size, 0, none⟩ : Addr).add j = ⟨w.heap.size, j, none⟩ := by unfold Addr.add; split <;> simp_all
  rw [e, new_cellT, ← Array.getElem?_toList]
  exact hj

/-- The literals that asks makes of names. -/
def litsK (ss : List ByteArray) : List Lm := (ss.zipIdx).map fun p => { n := p.2 % 2 == 1, s := p.1, A := none, m := 0, c := 0, o := 0 }
theorem litsK_len (ss : List ByteArray) : (litsK ss).length = ss.length := by unfold litsK; rw [List.length_map, List.length_zipIdx]
theorem litsK_next (ss : List ByteArray) (k : Nat) (s : ByteArray) (h : ss[k]? = some s) : litsK (ss.take (k + 1)) = litsK (ss.take k) ++ [{ n := k % 2 == 1, s := s, A := none, m := 0, c := 0, o := 0 }] := by
  obtain ⟨hk, _⟩ := List.getElem?_eq_some_iff.1 h
  unfold litsK
  rw [List.take_add_one, h, Option.toList_some, List.zipIdx_append, List.map_append, List.length_take, Nat.min_eq_left (by omega)]
  simp

/-- A rule lies in a block of seven cells. -/
def RuleB (W : World) (B : Nat) (nm : ByteArray) (v : Value) : Prop := W.heap[B]? = some (.cells #[.int .i64 2, .string nm, .slice none 0 0, .int .i64 0, .string ⟨#[]⟩, .int .i64 0, v] 30 (0, 0))
theorem RuleB.cells {W : World} {B : Nat} {nm : ByteArray} {v : Value} (h : RuleB W B nm v) (i : Nat) : W.cell? ⟨B, i, none⟩ = #[.int .i64 2, .string nm, .slice none 0 0, .int .i64 0, .string ⟨#[]⟩, .int .i64 0, v][i]? := by
  unfold RuleB at h
  simp [World.cell?, h]
theorem RuleB.frozen {W : World} {B : Nat} {nm : ByteArray} {v : Value} (h : RuleB W B nm v) (i : Nat) : W.frozen? ⟨B, i, none⟩ = false := by
  unfold RuleB at h
  simp [World.frozen?, h]
theorem RuleB.set {W : World} {B : Nat} {nm : ByteArray} {v : Value} (h : RuleB W B nm v) (v' : Value) : RuleB (W.setCell ⟨B, 6, none⟩ v') B nm v' := by
  obtain ⟨hlt, hk⟩ := Array.getElem?_eq_some_iff.1 h
  show (W.heap.modify B _)[B]? = _
  rw [Array.getElem?_eq_getElem (by rw [Array.size_modify]; exact hlt), Array.getElem_modify_self, hk]
  rfl
theorem grownBy_setCell6 (W : World) (b i : Nat) (v : Value) : W.grownBy (W.setCell ⟨b, i, none⟩ v) (some b) :=
  ⟨rfl, rfl, rfl, (KeepsWalks.setCell W _ v).size, fun k _ hk => Below.heap_setCell _ _ _ k (fun e => hk (by rw [e]))⟩
theorem RuleB.other {W W' : World} {row : Option Nat} {B : Nat} {nm : ByteArray} {v : Value} (h : RuleB W B nm v) (hg : W.grownBy W' row) (hne : some B ≠ row) : RuleB W' B nm v := (hg.block B (Array.getElem?_eq_some_iff.1 h).1 hne).trans h
theorem mod2_int (k : Nat) : ((k : Int).tmod 2 == 1) = (k % 2 == 1) := by
  have : (k : Int).tmod 2 = ((k % 2 : Nat) : Int) := by rw [Int.tmod_eq_emod_of_nonneg (by omega)]; omega
  rw [this, Bool.eq_iff_iff, beq_iff_eq, beq_iff_eq]
  omega

theorem zero7_cells {W : World} {B : Nat} (h : W.heap[B]? = some (.cells #[.int .i64 0, .string ⟨#[]⟩, .slice none 0 0, .int .i64 0, .string ⟨#[]⟩, .int .i64 0, .slice none 0 0] 30 (0, 0))) (i : Nat) : W.cell? ⟨B, i, none⟩ = #[.int .i64 0, .string ⟨#[]⟩, .slice none 0 0, .int .i64 0, .string ⟨#[]⟩, .int .i64 0, .slice none 0 0][i]? := by
  simp [World.cell?, h]
theorem zero7_frozen {W : World} {B : Nat} (h : W.heap[B]? = some (.cells #[.int .i64 0, .string ⟨#[]⟩, .slice none 0 0, .int .i64 0, .string ⟨#[]⟩, .int .i64 0, .slice none 0 0] 30 (0, 0))) (i : Nat) : W.frozen? ⟨B, i, none⟩ = false := by
  simp [World.frozen?, h]

theorem heap_set1 {W : World} {B i : Nat} {cs : Array Value} {t : TypeId} {v : Value} (h : W.heap[B]? = some (.cells cs t (0, 0))) : (W.setCell ⟨B, i, none⟩ v).heap[B]? = some (.cells (cs.setIfInBounds i v) t (0, 0)) := by
  obtain ⟨hlt, hk⟩ := Array.getElem?_eq_some_iff.1 h
  show (W.heap.modify B _)[B]? = _
  rw [Array.getElem?_eq_getElem (by rw [Array.size_modify]; exact hlt), Array.getElem_modify_self, hk]
  rfl
/-- Seven stores into a block. -/
def set7 (W : World) (B : Nat) (v0 v1 v2 v3 v4 v5 v6 : Value) : World := (((((((W.setCell ⟨B, 0, none⟩ v0).setCell ⟨B, 1, none⟩ v1).setCell ⟨B, 2, none⟩ v2).setCell ⟨B, 3, none⟩ v3).setCell ⟨B, 4, none⟩ v4).setCell ⟨B, 5, none⟩ v5).setCell ⟨B, 6, none⟩ v6)
theorem set7_own {W : World} {B : Nat} {a0 a1 a2 a3 a4 a5 a6 : Value} {t : TypeId} (v0 v1 v2 v3 v4 v5 v6 : Value) (h : W.heap[B]? = some (.cells #[a0, a1, a2, a3, a4, a5, a6] t (0, 0))) : (set7 W B v0 v1 v2 v3 v4 v5 v6).heap[B]? = some (.cells #[v0, v1, v2, v3, v4, v5, v6] t (0, 0)) := by
  have h0 := heap_set1 (i := 0) (v := v0) h
  rw [show #[a0, a1, a2, a3, a4, a5, a6].setIfInBounds 0 v0 = #[v0, a1, a2, a3, a4, a5, a6] from rfl] at h0
  have h1 := heap_set1 (i := 1) (v := v1) h0
  rw [show #[v0, a1, a2, a3, a4, a5, a6].setIfInBounds 1 v1 = #[v0, v1, a2, a3, a4, a5, a6] from rfl] at h1
  have h2 := heap_set1 (i := 2) (v := v2) h1
  rw [show #[v0, v1, a2, a3, a4, a5, a6].setIfInBounds 2 v2 = #[v0, v1, v2, a3, a4, a5, a6] from rfl] at h2
  have h3 := heap_set1 (i := 3) (v := v3) h2
  rw [show #[v0, v1, v2, a3, a4, a5, a6].setIfInBounds 3 v3 = #[v0, v1, v2, v3, a4, a5, a6] from rfl] at h3
  have h4 := heap_set1 (i := 4) (v := v4) h3
  rw [show #[v0, v1, v2, v3, a4, a5, a6].setIfInBounds 4 v4 = #[v0, v1, v2, v3, v4, a5, a6] from rfl] at h4
  have h5 := heap_set1 (i := 5) (v := v5) h4
  rw [show #[v0, v1, v2, v3, v4, a5, a6].setIfInBounds 5 v5 = #[v0, v1, v2, v3, v4, v5, a6] from rfl] at h5
  have h6 := heap_set1 (i := 6) (v := v6) h5
  rw [show #[v0, v1, v2, v3, v4, v5, a6].setIfInBounds 6 v6 = #[v0, v1, v2, v3, v4, v5, v6] from rfl] at h6
  exact h6
theorem set7_other (W : World) (B : Nat) (v0 v1 v2 v3 v4 v5 v6 : Value) (q : Nat) (h : q ≠ B) : (set7 W B v0 v1 v2 v3 v4 v5 v6).heap[q]? = W.heap[q]? := by
  have H : ∀ (W : World) (i : Nat) (v : Value), (W.setCell ⟨B, i, none⟩ v).heap[q]? = W.heap[q]? := fun W i v => Below.heap_setCell W ⟨B, i, none⟩ v q h
  unfold set7
  rw [H, H, H, H, H, H, H]
theorem set7_below {b : Nat} {w W : World} (h : Below b w W) {B : Nat} (hB : b ≤ B) (v0 v1 v2 v3 v4 v5 v6 : Value) : Below b w (set7 W B v0 v1 v2 v3 v4 v5 v6) :=
  ((((((h.setCell (p := ⟨B, 0, none⟩) hB v0).setCell (p := ⟨B, 1, none⟩) hB v1).setCell (p := ⟨B, 2, none⟩) hB v2).setCell (p := ⟨B, 3, none⟩) hB v3).setCell (p := ⟨B, 4, none⟩) hB v4).setCell (p := ⟨B, 5, none⟩) hB v5).setCell (p := ⟨B, 6, none⟩) hB v6

/-- What asks makes. -/
def AsksP (nm : ByteArray) (ls : List ByteArray) (w : World) (e : Ending) (w' : World) : Prop := ∃ r : Rl, e = .returned (.agg r.cells.toArray) ∧ r.nm = nm ∧ r.b = litsK ls ∧ LmsAt w' r.bA r.b ∧ Below w.heap.size w w'

set_option maxRecDepth 100000 in
set_option maxHeartbeats 4000000 in
theorem lw_asks (nm : ByteArray) (ls : List ByteArray) (A : Option Addr) (c : Nat) (w : World) (hl : ls.length ≤ 20) (hA : TxsAt w A ls) (hag : Head0 A) :
    Calls Try.prog 18 #[.string nm, .slice A ls.length c] w (AsksP nm ls w) := by
  have HA := Lib.hid hA
  have HAG := Lib.hid hag
  clear hA hag
  go_enter Try.func18, Try.ntmps18
  go_wp2
  go_loopw [6] (fun i wr => ∃ (k : Nat) (v : Value), i = .int .i64 k ∧ k ≤ ls.length ∧ RuleB wr (w.heap.size + 1) nm v ∧ OwnM wr (w.heap.size + 2) v (litsK (ls.take k)) ∧ Below (w.heap.size + 1) (w.alloc (.cells #[.int .i64 0, .string ⟨#[]⟩, .slice none 0 0, .int .i64 0, .string ⟨#[]⟩, .int .i64 0, .slice none 0 0] 30)) wr) (fun i _ => ls.length - (intOf i).toNat)
  case atStart =>
    refine ⟨0, .slice none 0 0, rfl, Nat.zero_le _, ?_, OwnM.nil _ _, (one_new _ _).mono (by simp)⟩
    have := World.alloc_heap_new (w.alloc (.cells #[.int .i64 0, .string ⟨#[]⟩, .slice none 0 0, .int .i64 0, .string ⟨#[]⟩, .int .i64 0, .slice none 0 0] 30)) (.cells #[.int .i64 2, .string nm, .slice none 0 0, .int .i64 0, .string ⟨#[]⟩, .int .i64 0, .slice none 0 0] 30)
    rw [World.size_alloc] at this
    exact this
  case round =>
    obtain ⟨k, v, rfl, hk, hR, hO, hb⟩ := hrel
    have HB0 := Lib.hid ((one_new w (.cells #[.int .i64 0, .string ⟨#[]⟩, .slice none 0 0, .int .i64 0, .string ⟨#[]⟩, .int .i64 0, .slice none 0 0] 30)).trans (hb.mono (by omega)))
    have hsz := hb.size
    rw [World.size_alloc] at hsz
    have hlt1 : w.heap.size + 1 < wr.heap.size := (Array.getElem?_eq_some_iff.1 hR).1
    have HB := Lib.hid hb
    have HR := Lib.hid hR
    have HO := Lib.hid hO
    have hlk := litsK_len (ls.take k)
    rw [List.length_take] at hlk
    have hlk2 : (litsK (ls.take k)).length = k := by omega
    obtain ⟨A1, c1, hv⟩ := hO.form
    rw [hlk2] at hv
    subst hv
    clear hb hlk
    by_cases hlt : k < ls.length
    · obtain ⟨s, hs⟩ : ∃ s, ls[k]? = some s := ⟨_, List.getElem?_eq_getElem hlt⟩
      obtain ⟨g, rfl⟩ := TxsAt.head HA.out HAG.out (by omega)
      have hta := (HA.out.below HB0.out).at k s hs
      have HN := Lib.hid (litsK_next ls k s hs)
      have c6 : wr.cell? ⟨w.heap.size + 1, 6, none⟩ = some (.slice A1 k c1) := hR.cells 6
      have hmod := mod2_int k
      have HMO := Lib.hid hmod
      have hg := Array.getElem?_eq_some_iff.1 hR
      have htx : ∀ j : Nat, j < wr.heap.size → (wr.alloc (.cells #[.bool (k % 2 == 1), .string s, .slice none 0 0, .int .i64 0] 45)).heap[j]? = wr.heap[j]? := fun j hj => Below.heap_alloc _ _ _ hj
      have HTX := Lib.hid htx
      have hne : ∀ q, (Value.slice A1 k c1).ownBlock = some q → w.heap.size + 2 ≤ q := fun q hq => (World.ownsRow.lt hO q hq).1
      have HNE := Lib.hid hne
      clear hR hO hs htx hne hg
      go_wp2
      go_region_law
        ((refine step_append_M ((wr.alloc (.cells #[.bool (k % 2 == 1), .string s, .slice none 0 0, .int .i64 0] 45)).drew) (by rfl) _ _ (by rfl) (w.heap.size + 2) (.slice A1 k c1) (litsK (ls.take k)) { n := k % 2 == 1, s := s, A := none, m := 0, c := 0, o := 0 } (by rfl) (by exact World.ownsRow.alloc HO.out _) ⟨wr.heap.size, 0, none⟩ 1 (by rfl) (by exact lit_M wr { n := k % 2 == 1, s := s, A := none, m := 0, c := 0, o := 0 } _) (by omega) (by simp; omega) ?_; intro v' w5 hown5 hb5 hg5 hor5; have hr5 : RuleB w5 (w.heap.size + 1) nm (.slice A1 k c1) := RuleB.other (W := (wr.alloc (.cells #[.bool (k % 2 == 1), .string s, .slice none 0 0, .int .i64 0] 45)).drew) ((HTX.out (w.heap.size + 1) hlt1).trans HR.out) hg5 (fun e => by have := HNE.out _ e.symm; omega); obtain ⟨A2, c2, hv2⟩ := hown5.form; rw [List.length_append, List.length_singleton, hlk2] at hv2; subst hv2; have c65 : w5.cell? ⟨w.heap.size + 1, 6, none⟩ = some (.slice A1 k c1) := hr5.cells 6; have f65 := hr5.frozen 6))
      all_goals
        have hr7 := hr5.set (.slice A2 (k + 1) c2)
        have hs5 := hg5.size
        rw [World.size_drew, World.size_alloc] at hs5
        have ho7 : OwnM (w5.setCell ⟨w.heap.size + 1, 6, none⟩ (.slice A2 (k + 1) c2)) (w.heap.size + 2) (.slice A2 (k + 1) c2) (litsK (ls.take k) ++ [{ n := k % 2 == 1, s := s, A := none, m := 0, c := 0, o := 0 }]) := hown5.byBlock fun q hq => (grownBy_setCell6 w5 (w.heap.size + 1) 6 (.slice A2 (k + 1) c2)).block q (World.ownsRow.lt hown5 q hq).2 (fun e => by injection e with e; have := (World.ownsRow.lt hown5 q hq).1; omega)
        have hb7 : Below (w.heap.size + 1) (w.alloc (.cells #[.int .i64 0, .string ⟨#[]⟩, .slice none 0 0, .int .i64 0, .string ⟨#[]⟩, .int .i64 0, .slice none 0 0] 30)) (w5.setCell ⟨w.heap.size + 1, 6, none⟩ (.slice A2 (k + 1) c2)) :=
          ((HB.out.trans (((one_new wr (.cells #[.bool (k % 2 == 1), .string s, .slice none 0 0, .int .i64 0] 45)).mono (by omega)).drew)).trans (hb5.mono (by omega))).setCell (p := ⟨w.heap.size + 1, 6, none⟩) (Nat.le_refl _) _
        have HR7 := Lib.hid hr7
        have HO7 := Lib.hid ho7
        have HB7 := Lib.hid hb7
        clear hr7 ho7 hb7 hown5 hb5 hg5 hor5 hr5 c65 f65 c6 hta hmod
        go_wp2
        go_roundw
        case rel => exact ⟨k + 1, _, by go_num, by omega, HR7.out, by rw [HN.out]; exact HO7.out, HB7.out⟩
        case measure => simp [intOf]; omega
    · have hkk : ls.take k = ls := List.take_of_length_le (by omega)
      rw [hkk] at HO hlk2
      have d := fun i => hR.cells i
      have d0 := d 0
      have d1 := d 1
      have d2 := d 2
      have d3 := d 3
      have d4 := d 4
      have d5 := d 5
      have d6 := d 6
      have z : wr.heap[w.heap.size]? = some (.cells #[.int .i64 0, .string ⟨#[]⟩, .slice none 0 0, .int .i64 0, .string ⟨#[]⟩, .int .i64 0, .slice none 0 0] 30 (0, 0)) := (HB.out.block w.heap.size (Nat.lt_succ_self _)).trans (World.alloc_heap_new w _)
      have ze := fun i => zero7_cells z i
      have e0 := ze 0
      have e1 := ze 1
      have e2 := ze 2
      have e3 := ze 3
      have e4 := ze 4
      have e5 := ze 5
      have e6 := ze 6
      have zf := zero7_frozen z
      have f0 := zf 0
      have f1 := zf 1
      have f2 := zf 2
      have f3 := zf 3
      have f4 := zf 4
      have f5 := zf 5
      have f6 := zf 6
      have HZ7 := Lib.hid z
      have hd1 : (decide ((k : Int) < (ls.length : Int))) = false := decide_eq_false (by omega)
      have hz7 := set7_own (.int .i64 2) (.string nm) (.slice none 0 0) (.int .i64 0) (.string ⟨#[]⟩) (.int .i64 0) (.slice A1 k c1) z
      have ho7 : OwnM (set7 wr w.heap.size (.int .i64 2) (.string nm) (.slice none 0 0) (.int .i64 0) (.string ⟨#[]⟩) (.int .i64 0) (.slice A1 k c1)) (w.heap.size + 2) (.slice A1 k c1) (litsK ls) := HO.out.byBlock fun q hq => set7_other _ _ _ _ _ _ _ _ _ q (by have := (World.ownsRow.lt HO.out q hq).1; omega)
      have hb7 := set7_below HB0.out (B := w.heap.size) (Nat.le_refl _) (.int .i64 2) (.string nm) (.slice none 0 0) (.int .i64 0) (.string ⟨#[]⟩) (.int .i64 0) (.slice A1 k c1)
      have hr7 : RuleB (set7 wr w.heap.size (.int .i64 2) (.string nm) (.slice none 0 0) (.int .i64 0) (.string ⟨#[]⟩) (.int .i64 0) (.slice A1 k c1)) w.heap.size nm (.slice A1 k c1) := hz7
      obtain ⟨A2, c2, hv2, hlms, hfr⟩ := ho7.lms
      rw [hlk2] at hv2
      injection hv2 with hv2 hv3 hv4
      subst hv2
      subst hv4
      have HL := Lib.hid hlms
      have HB7 := Lib.hid hb7
      have r := fun i => hr7.cells i
      unfold set7 at r
      have HR0 := Lib.hid (r 0)
      have HR1 := Lib.hid (r 1)
      have HR2 := Lib.hid (r 2)
      have HR3 := Lib.hid (r 3)
      have HR4 := Lib.hid (r 4)
      have HR5 := Lib.hid (r 5)
      have HR6 := Lib.hid (r 6)
      clear hR hO d z ze zf hz7 ho7 hb7 hr7 hlms hfr r
      go_wp2
      have r0 := HR0.out
      have r1 := HR1.out
      have r2 := HR2.out
      have r3 := HR3.out
      have r4 := HR4.out
      have r5 := HR5.out
      have r6 := HR6.out
      refine bodyPost_ret (v := .agg #[.int .i64 2, .string nm, .slice none 0 0, .int .i64 0, .string ⟨#[]⟩, .int .i64 0, .slice A1 k c1]) (by simp [results, Try.results18, r0, r1, r2, r3, r4, r5, r6, go_sem]) rfl ⟨{ k := 2, nm := nm, hA := none, hn := 0, hc := 0, ag := 0, ofv := ⟨#[]⟩, lim := 0, bA := A1, bc := c1, b := litsK ls }, ?_, rfl, rfl, HL.out, HB7.out⟩
      unfold Rl.cells
      rw [← hlk2]
end Go.Proofs.Ytojpccngcicbmaa
