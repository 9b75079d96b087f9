/-
  Lists of rules in memory; the document's find, ready, Users.
  Condition: no more than a hundred rules with few literals.
-/
import Derived.Test.YtojpccngcicbmaaYd
namespace Go.Proofs.Ytojpccngcicbmaa
open Go.RowKit Go.Maps

/-- A rule lies at an address. -/
def RlAt (W : World) (a : Addr) (r : Rl) : Prop :=
  W.cell? a = some (.int .i64 r.k) ∧ W.cell? { block := a.block, off := a.off + 1 } = some (.string r.nm) ∧ W.cell? { block := a.block, off := a.off + 2 } = some (.slice r.hA r.hn r.hc) ∧ W.cell? { block := a.block, off := a.off + 3 } = some (.int .i64 r.ag) ∧
    W.cell? { block := a.block, off := a.off + 4 } = some (.string r.ofv) ∧ W.cell? { block := a.block, off := a.off + 5 } = some (.int .i64 r.lim) ∧ W.cell? { block := a.block, off := a.off + 6 } = some (.slice r.bA r.b.length r.bc)
def RlsAt (W : World) (A : Option Addr) (l : List Rl) : Prop := ∀ (i : Nat) (r : Rl), l[i]? = some r → ∃ a : Addr, A = some a ∧ RlAt W (a.add (i * 7)) r ∧ r.Ok W
theorem RlAt.below {w w' : World} {a : Addr} {r : Rl} (h : RlAt w a r) (hb : Below w.heap.size w w') : RlAt w' a r := by
  obtain ⟨h0, h1, h2, h3, h4, h5, h6⟩ := h
  have hlt := World.block_lt_of_cell? w _ h0
  exact ⟨(hb.cell hlt).trans h0, (hb.cell (p := { block := a.block, off := a.off + 1 }) hlt).trans h1, (hb.cell (p := { block := a.block, off := a.off + 2 }) hlt).trans h2, (hb.cell (p := { block := a.block, off := a.off + 3 }) hlt).trans h3, (hb.cell (p := { block := a.block, off := a.off + 4 }) hlt).trans h4, (hb.cell (p := { block := a.block, off := a.off + 5 }) hlt).trans h5, (hb.cell (p := { block := a.block, off := a.off + 6 }) hlt).trans h6⟩
theorem RlsAt.below {w w' : World} {A : Option Addr} {l : List Rl} (h : RlsAt w A l) (hb : Below w.heap.size w w') : RlsAt w' A l := by
  intro i r hi
  obtain ⟨a, ha, h1, h2⟩ := h i r hi
  exact ⟨a, ha, h1.below hb, h2.below hb⟩
/-- The rules' names. -/
def nms (l : List Rl) : List ByteArray := l.map (·.nm)
theorem nms_at {l : List Rl} {i : Nat} {r : Rl} (h : l[i]? = some r) : (nms l)[i]? = some r.nm := by unfold nms; rw [List.getElem?_map, h]; rfl
theorem nms_len (l : List Rl) : (nms l).length = l.length := by unfold nms; rw [List.length_map]
/-- The place of a text among some; -1: it is none of them. -/
def posS : List ByteArray → ByteArray → Int
  | [], _ => -1
  | x :: l, s => if (x.toList == s.toList) = true then 0 else if posS l s < 0 then -1 else posS l s + 1
theorem posS_cons (x : ByteArray) (l : List ByteArray) (s : ByteArray) : posS (x :: l) s = if (x.toList == s.toList) = true then 0 else if posS l s < 0 then -1 else posS l s + 1 := rfl
theorem posS_ge (l : List ByteArray) (s : ByteArray) : -1 ≤ posS l s ∧ posS l s < l.length := by
  induction l with
  | nil =>
    show (-1 : Int) ≤ -1 ∧ (-1 : Int) < ((0 : Nat) : Int)
    omega
  | cons x l ih =>
    unfold posS
    rw [List.length_cons]
    split
    · omega
    · split <;> omega
theorem posS_none {l : List ByteArray} {s : ByteArray} (h : hasX s l = false) : posS l s = -1 := by
  induction l with
  | nil => rfl
  | cons x l ih =>
    unfold hasX at h
    rw [List.any_cons, Bool.or_eq_false_iff] at h
    unfold posS
    rw [if_neg (by rw [h.1]; exact Bool.false_ne_true), ih h.2, if_pos (by decide)]
theorem posS_at : ∀ {l : List ByteArray} {s : ByteArray} {k : Nat} {x : ByteArray}, hasX s (l.take k) = false → l[k]? = some x → (x.toList == s.toList) = true → posS l s = (k : Int)
  | [], _, _, _, _, h, _ => by simp at h
  | y :: l, s, 0, x, _, h, h2 => by
    have e : y = x := by simpa using h
    subst e
    unfold posS
    rw [if_pos h2]
    rfl
  | y :: l, s, k + 1, x, h0, h, h2 => by
    rw [List.take_succ_cons] at h0
    unfold hasX at h0
    rw [List.any_cons, Bool.or_eq_false_iff] at h0
    have ih := posS_at (l := l) (s := s) (k := k) (x := x) h0.2 (by simpa using h) h2
    unfold posS
    rw [if_neg (by rw [h0.1]; exact Bool.false_ne_true), ih, if_neg (by omega)]
    omega
theorem posS_has (l : List ByteArray) (s : ByteArray) : (0 ≤ posS l s) = (hasX s l = true) := by
  induction l with
  | nil => unfold posS hasX; simp
  | cons x l ih =>
    have hh : hasX s (x :: l) = ((x.toList == s.toList) || hasX s l) := rfl
    rw [hh, Bool.or_eq_true, ← ih, posS_cons]
    by_cases h : (x.toList == s.toList) = true
    · rw [if_pos h]
      exact propext ⟨fun _ => .inl h, fun _ => by omega⟩
    · rw [if_neg h]
      have := (posS_ge l s).1
      by_cases h2 : posS l s < 0
      · rw [if_pos h2]
        exact propext ⟨fun h3 => absurd h3 (by omega), fun h3 => h3.elim (fun h4 => absurd h4 h) (fun h4 => by omega)⟩
      · rw [if_neg h2]
        exact propext ⟨fun _ => .inr (by omega), fun _ => by omega⟩

set_option maxRecDepth 100000 in
set_option maxHeartbeats 2000000 in
theorem r_find (l : List Rl) (A : Option Addr) (c : Nat) (s : ByteArray) (w : World) (hl : l.length ≤ 1000) (hA : RlsAt w A l) :
    Calls Try.prog 29 #[.slice A l.length c, .string s] w fun e w' => e = .returned (.int .i64 (posS (nms l) s)) ∧ Below w.heap.size w w' := by
  have HA := Lib.hid hA
  clear hA
  go_enter Try.func29, Try.ntmps29
  go_wp2
  go_loopw [5] (fun i wr => ∃ k : Nat, i = .int .i64 k ∧ k ≤ l.length ∧ hasX s ((nms l).take k) = false ∧ Below w.heap.size w wr) (fun i _ => l.length - (intOf i).toNat)
  case atStart => exact ⟨0, rfl, by omega, by simp [hasX], Below.refl _ _⟩
  case round =>
    obtain ⟨k, rfl, hk, hno, hb⟩ := hrel
    have HB := Lib.hid hb
    have hta := HA.out.below hb
    clear hb
    by_cases hlt : k < l.length
    · obtain ⟨r, hr⟩ : ∃ r, l[k]? = some r := ⟨_, List.getElem?_eq_getElem hlt⟩
      obtain ⟨a, rfl, ⟨_, d1, _⟩, _⟩ := hta k r hr
      have hs := hasX_succ s (nms l) k r.nm (nms_at hr)
      rw [hno, Bool.false_or] at hs
      have hall : (r.nm.toList == s.toList) = true → posS (nms l) s = (k : Int) := fun h => posS_at hno (nms_at hr) h
      have HS := Lib.hid hs
      have HALL := Lib.hid hall
      clear hta hno hs hr hall
      rcases Bool.eq_false_or_eq_true (r.nm.toList == s.toList) with hh | hh
      · rw [hh] at HALL
        have HR := Lib.hid (HALL.out rfl)
        clear HALL HS
        go_wp2
        go_ret
        exact ⟨by rw [HR.out]; rfl, HB.out⟩
      · rw [hh] at HS
        clear HALL
        go_wp2
        go_roundw
        case rel => exact ⟨k + 1, by go_num, by omega, HS.out, HB.out⟩
        case measure => simp [intOf]; omega
    · have hd : posS (nms l) s = -1 := by
        rw [List.take_of_length_le (by rw [nms_len]; omega)] at hno
        exact posS_none hno
      have HD := Lib.hid hd
      clear hno hd hta
      go_wp2
      go_ret
      exact ⟨by rw [HD.out]; rfl, HB.out⟩

/-- Whether all of some that are among names are told. -/
def readyS (names told asks : List ByteArray) : Bool := asks.all fun y => !(hasX y names) || hasX y told
theorem readyS_snoc (names told a : List ByteArray) (y : ByteArray) : readyS names told (a ++ [y]) = (readyS names told a && (!(hasX y names) || hasX y told)) := by
  unfold readyS
  rw [List.all_append]
  simp
theorem readyS_no {names told a : List ByteArray} {y : ByteArray} (h : y ∈ a) (h1 : hasX y names = true) (h2 : hasX y told = false) : readyS names told a = false := by
  unfold readyS
  rw [List.all_eq_false]
  exact ⟨y, h, by rw [h1, h2]; decide⟩

set_option maxRecDepth 100000 in
set_option maxHeartbeats 4000000 in
theorem r_ready (r : Rl) (l : List Rl) (ts : List ByteArray) (A B : Option Addr) (c d : Nat) (w : World) (hr : r.Ok w) (hl : l.length ≤ 1000) (ht : ts.length ≤ 1000) (hA : RlsAt w A l) (hB : TxsAt w B ts) (hbg : Head0 B) :
    Calls Try.prog 31 #[.agg r.cells.toArray, .slice A l.length c, .slice B ts.length d] w fun e w' => e = .returned (.bool (readyS (nms l) ts r.asks)) ∧ Below w.heap.size w w' := by
  have HR := Lib.hid hr
  have HA := Lib.hid hA
  have HBT := Lib.hid hB
  have hal := r.asks_len
  have hbl := hr.2.1
  have HASK := Lib.hid (fun W (h : r.Ok W) => r_asks r W h)
  have hal2 : r.asks.length ≤ 40 := by omega
  generalize r.asks = az at *
  obtain ⟨k0, nm, hA', hn, hc, ag, ofv, lim, bA, bc, b⟩ := r
  unfold Rl.cells at *
  simp only at *
  have HB0 := Lib.hid (one_new w (.cells #[.int .i64 k0, .string nm, .slice hA' hn hc, .int .i64 ag, .string ofv, .int .i64 lim, .slice bA b.length bc] 30))
  have hx := World.alloc_heap_new w (.cells #[.int .i64 k0, .string nm, .slice hA' hn hc, .int .i64 ag, .string ofv, .int .i64 lim, .slice bA b.length bc] 30)
  have N := fun i => new_cellT w #[.int .i64 k0, .string nm, .slice hA' hn hc, .int .i64 ag, .string ofv, .int .i64 lim, .slice bA b.length bc] 30 i
  have n0 := N 0
  have n1 := N 1
  have n2 := N 2
  have n3 := N 3
  have n4 := N 4
  have n5 := N 5
  have n6 := N 6
  have HCA := Lib.hid (HASK.out (w.alloc (.cells #[.int .i64 k0, .string nm, .slice hA' hn hc, .int .i64 ag, .string ofv, .int .i64 lim, .slice bA b.length bc] 30)) (hr.below HB0.out))
  clear hr hA hB hx N HASK hal hbl
  go_enter Try.func31, Try.ntmps31
  go_wp2_with fail
  refine HCA.out.mono ?_
  rintro e w1 ⟨A1, c1, rfl, htx, hag, hb1⟩
  have HTX := Lib.hid htx
  have HB1 := Lib.hid (HB0.out.trans (hb1.mono (by simp)))
  clear htx hb1 n0 n1 n2 n3 n4 n5 n6
  go_wp2
  go_loopw [8] (fun i wr => ∃ k : Nat, i = .int .i64 k ∧ k ≤ az.length ∧ readyS (nms l) ts (az.take k) = true ∧ Below w1.heap.size w1 wr) (fun i _ => az.length - (intOf i).toNat)
  case atStart => exact ⟨0, rfl, by omega, rfl, Below.refl _ _⟩
  case round =>
    obtain ⟨k, rfl, hk, hno, hb⟩ := hrel
    have HBK := Lib.hid hb
    have HB := Lib.hid (HB1.out.trans (hb.mono HB1.out.size))
    have hta := HTX.out.below hb
    clear hb
    by_cases hlt : k < az.length
    · obtain ⟨g, rfl⟩ := hta.head hag (by omega)
      obtain ⟨y, hy⟩ : ∃ y, az[k]? = some y := ⟨_, List.getElem?_eq_getElem hlt⟩
      have c0 := hta.at k _ hy
      have HC0 := Lib.hid c0
      have hsn := readyS_snoc (nms l) ts (az.take k) y
      rw [hno, Bool.true_and] at hsn
      have htk : az.take (k + 1) = az.take k ++ [y] := by rw [List.take_add_one, hy]; rfl
      rw [← htk] at hsn
      have hmem := List.mem_of_getElem? hy
      have HSN := Lib.hid hsn
      have HMEM := Lib.hid hmem
      have HF := Lib.hid (r_find l A c y wr hl (HA.out.below HB.out))
      have hph := posS_has (nms l) y
      have hpg := (posS_ge (nms l) y).1
      generalize posS (nms l) y = p at HF hph hpg
      have HPH := Lib.hid hph
      clear hta hy hsn htk hmem hph hno
      go_wp2_with fail
      refine HF.out.mono ?_
      rintro e w2 ⟨rfl, hb2⟩
      have HB2 := Lib.hid (HB.out.trans (hb2.mono HB.out.size))
      have HBK2 := Lib.hid (HBK.out.trans (hb2.mono HBK.out.size))
      have c2 := (hb2.cell (World.block_lt_of_cell? wr _ HC0.out)).trans HC0.out
      clear hb2 c0 HF
      by_cases hp : 0 ≤ p
      · have hin : hasX y (nms l) = true := by rw [← HPH.out]; exact hp
        have HIN := Lib.hid hin
        clear hin
        have HH := Lib.hid (r_hasY ts B d y w2 ht (HBT.out.below HB2.out) hbg)
        go_wp2_with fail
        refine HH.out.mono ?_
        rintro e w3 ⟨rfl, hb3⟩
        have HB3 := Lib.hid (HB2.out.trans (hb3.mono HB2.out.size))
        have HBK3 := Lib.hid (HBK2.out.trans (hb3.mono HBK2.out.size))
        clear hb3 HH
        rcases Bool.eq_false_or_eq_true (hasX y ts) with hh | hh
        · have HS2 : Hid (readyS (nms l) ts (az.take (k + 1)) = true) := Lib.hid (by rw [HSN.out, hh]; simp)
          rw [hh]
          clear HSN hh
          go_wp2
          go_roundw
          case rel => exact ⟨k + 1, by go_num, by omega, HS2.out, HBK3.out⟩
          case measure => simp [intOf]; omega
        · have HRES := Lib.hid (readyS_no HMEM.out HIN.out hh)
          rw [hh]
          clear HSN hh
          go_wp2
          go_ret
          exact ⟨by rw [HRES.out]; rfl, HB3.out⟩
      · have hin : hasX y (nms l) = false := by
          rw [← Bool.not_eq_true, ← HPH.out]
          exact hp
        have HS2 : Hid (readyS (nms l) ts (az.take (k + 1)) = true) := Lib.hid (by rw [HSN.out, hin]; rfl)
        clear HSN hin
        go_wp2
        go_roundw
        case rel => exact ⟨k + 1, by go_num, by omega, HS2.out, HBK2.out⟩
        case measure => simp [intOf]; omega
    · have hkk : az.take k = az := List.take_of_length_le (by omega)
      rw [hkk] at hno
      have HNO := Lib.hid hno
      clear hno hkk hta
      go_wp2
      go_ret
      exact ⟨by rw [HNO.out]; rfl, HB.out⟩
end Go.Proofs.Ytojpccngcicbmaa
