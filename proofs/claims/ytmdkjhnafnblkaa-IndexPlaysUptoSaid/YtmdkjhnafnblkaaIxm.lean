/-
  told and mark of package index: a value less all that Compare does not look at, and the bytes of a key; nothing that was there is changed.
  Condition: a key has no more than one million one hundred thousand cells, whose numbers have 64 bits.
-/
import Derived.Test.YtmdkjhnafnblkaaRpick
import Derived.Test.YtmdkjhnafnblkaaProw
namespace Go.Proofs.Ytmdkjhnafnblkaa
open Go.RowKit

/-- A value less all that Compare does not look at. -/
def toldV (v : V) : V := if v.k = 0 then ⟨0, false, 0, ⟨#[]⟩⟩ else if v.k = 1 then ⟨1, v.f, 0, ⟨#[]⟩⟩ else if v.k = 2 then ⟨2, false, v.n, ⟨#[]⟩⟩ else if v.k = 3 then ⟨3, false, 0, v.t⟩ else v
/-- The bytes of a key. -/
def markB (xs : List V) : ByteArray := ⟨(rowB (xs.map toldV)).toArray⟩

theorem three_new (w : World) (a b c : Obj) : Below w.heap.size w (((w.alloc a).alloc b).alloc c) := (two_new _ _ _).alloc (by simp; omega) _
theorem bset9 {w w' : World} {p : Addr} {u : Value} (h : Below w.heap.size w w') (hp : w.heap.size ≤ p.block) : Below w.heap.size w (w'.setCell p u) := h.setCell (p := p) hp u

set_option maxRecDepth 100000 in
set_option maxHeartbeats 2000000 in
theorem i_told (v : V) (w : World) : Calls Try.prog 141 #[.agg #[.int .i64 v.k, .bool v.f, .int .i64 v.n, .string v.t]] w fun e w' => e = .returned (.agg #[.int .i64 (toldV v).k, .bool (toldV v).f, .int .i64 (toldV v).n, .string (toldV v).t]) ∧ Below w.heap.size w w' := by
  obtain ⟨k, f, n, t⟩ := v
  dsimp only
  by_cases h0 : k = 0
  · subst h0
    have e : toldV ⟨0, f, n, t⟩ = ⟨0, false, 0, ⟨#[]⟩⟩ := rfl
    rw [e]
    clear e
    go_enter Try.func141, Try.ntmps141
    go_wp2_with (first | (go_at_call 76; refine (mk_null _).mono ?_; rintro e w' ⟨rfl, rfl⟩))
    exact bodyPost_ret (v := .agg #[.int .i64 0, .bool false, .int .i64 0, .string ⟨#[]⟩]) (by simp [results, Try.results141, go_sem]) rfl ⟨rfl, by repeat (first | (with_reducible exact three_new _ _ _ _) | (with_reducible exact two_new _ _ _) | ((with_reducible refine bset9 ?_ ?_); (case refine_2 => simp)))⟩
  by_cases h1 : k = 1
  · subst h1
    have e : toldV ⟨1, f, n, t⟩ = ⟨1, f, 0, ⟨#[]⟩⟩ := rfl
    rw [e]
    clear e h0
    go_enter Try.func141, Try.ntmps141
    go_wp2_with (first | (go_at_call 75; refine (mk_bool _ _).mono ?_; rintro e w' ⟨rfl, rfl⟩))
    exact bodyPost_ret (v := .agg #[.int .i64 1, .bool f, .int .i64 0, .string ⟨#[]⟩]) (by simp [results, Try.results141, go_sem]) rfl ⟨rfl, by repeat (first | (with_reducible exact three_new _ _ _ _) | (with_reducible exact two_new _ _ _) | ((with_reducible refine bset9 ?_ ?_); (case refine_2 => simp)))⟩
  by_cases h2 : k = 2
  · subst h2
    have e : toldV ⟨2, f, n, t⟩ = ⟨2, false, n, ⟨#[]⟩⟩ := rfl
    rw [e]
    clear e h0 h1
    go_enter Try.func141, Try.ntmps141
    go_wp2_with (first | (go_at_call 74; refine (mk_int _ _).mono ?_; rintro e w' ⟨rfl, rfl⟩))
    exact bodyPost_ret (v := .agg #[.int .i64 2, .bool false, .int .i64 n, .string ⟨#[]⟩]) (by simp [results, Try.results141, go_sem]) rfl ⟨rfl, by repeat (first | (with_reducible exact three_new _ _ _ _) | (with_reducible exact two_new _ _ _) | ((with_reducible refine bset9 ?_ ?_); (case refine_2 => simp)))⟩
  by_cases h3 : k = 3
  · subst h3
    have e : toldV ⟨3, f, n, t⟩ = ⟨3, false, 0, t⟩ := rfl
    rw [e]
    clear e h0 h1 h2
    go_enter Try.func141, Try.ntmps141
    go_wp2_with (first | (go_at_call 179; refine (mk_text _ _).mono ?_; rintro e w' ⟨rfl, rfl⟩))
    exact bodyPost_ret (v := .agg #[.int .i64 3, .bool false, .int .i64 0, .string t]) (by simp [results, Try.results141, go_sem]) rfl ⟨rfl, by repeat (first | (with_reducible exact three_new _ _ _ _) | (with_reducible exact two_new _ _ _) | ((with_reducible refine bset9 ?_ ?_); (case refine_2 => simp)))⟩
  · have e : toldV ⟨k, f, n, t⟩ = ⟨k, f, n, t⟩ := by unfold toldV; simp only; rw [if_neg h0, if_neg h1, if_neg h2, if_neg h3]
    rw [e]
    have b0 : (k == 0) = false := by simpa using h0
    have b1 : (k == 1) = false := by simpa using h1
    have b2 : (k == 2) = false := by simpa using h2
    have b3 : (k == 3) = false := by simpa using h3
    clear e h0 h1 h2 h3
    go_enter Try.func141, Try.ntmps141
    go_wp2
    exact bodyPost_ret (v := .agg #[.int .i64 k, .bool f, .int .i64 n, .string t]) (by simp [results, Try.results141, go_sem]) rfl ⟨rfl, by repeat (first | (with_reducible exact three_new _ _ _ _) | (with_reducible exact two_new _ _ _) | ((with_reducible refine bset9 ?_ ?_); (case refine_2 => simp)))⟩

theorem told_take (xs : List V) (k : Nat) (v : V) (h : xs[k]? = some v) : (xs.take (k + 1)).map toldV = (xs.take k).map toldV ++ [toldV v] := by
  rw [List.take_add_one, h]
  simp
theorem told_wide (v : V) (h : Wide v) : Wide (toldV v) := by
  unfold toldV Wide at *
  split
  · simp
  · split
    · simp
    · split
      · exact h
      · split
        · simp
        · exact h

set_option maxRecDepth 100000 in
set_option maxHeartbeats 2000000 in
theorem i_mark (A : Option Addr) (xs : List V) (n c : Nat) (w : World) (hn : n = xs.length) (hl : n ≤ 1100000) (hw : WideR xs) (hx : RowAt w w.heap.size A xs) :
    Calls Try.prog 90 #[.slice A n c] w fun e w' => e = .returned (.string (markB xs)) ∧ Below w.heap.size w w' := by
  have HX := Lib.hid hx
  have HN := Lib.hid hn
  have HW : Hid (WideR (xs.map toldV)) := Lib.hid (by
    intro v hv
    obtain ⟨u, hu, rfl⟩ := List.mem_map.1 hv
    exact told_wide u (hw u hu))
  clear hx hn hw
  go_enter Try.func90, Try.ntmps90
  go_wp2_with (at_make; go_must (refine wp_make_V _ rfl _ _ rfl w.heap.size n rfl rfl (by omega) (Nat.le_refl _) ?_; intro v0 w0 hown0 hb0))
  have HO := Lib.hid hown0
  have HB := Lib.hid hb0
  clear hown0 hb0
  go_loopw [3, 11] (fun v i wr => ∃ k : Nat, k ≤ n ∧ i = .int .i64 k ∧ Own wr w.heap.size v ((xs.take k).map toldV) ∧ Below w.heap.size w wr) (fun _ i _ => n - (intOf i).toNat)
  case atStart => exact ⟨0, Nat.zero_le _, rfl, HO.out, HB.out⟩
  case round =>
    obtain ⟨k, hk, rfl, hown, hb⟩ := hrel
    have HO := Lib.hid hown
    have HB := Lib.hid hb
    have hsz : w.heap.size ≤ wr.heap.size := hb.size
    clear hown hb
    by_cases h1 : k < n
    · obtain ⟨v, hv⟩ : ∃ v, xs[k]? = some v := ⟨_, List.getElem?_eq_getElem (by rw [← HN.out]; exact h1)⟩
      obtain ⟨a, rfl, ha, a0, a1, a2, a3⟩ := (HX.out.below HB.out) k v hv
      have HV := Lib.hid hv
      have ha' : (a.add (k * 4)).block < wr.heap.size := by omega
      have hlen : ((xs.take k).map toldV).length ≤ 1100000 := by rw [List.length_map]; exact Nat.le_trans (List.length_take_le _ _) (by omega)
      clear hv
      go_wp2_with fail
      refine (i_told v _).mono ?_
      rintro e w1 ⟨rfl, hb1⟩
      have hbw := (one_new wr (.cells #[.int .i64 v.k, .bool v.f, .int .i64 v.n, .string v.t] 113)).trans (hb1.mono (by simp))
      have HBW := Lib.hid hbw
      have HO1 := Lib.hid (HO.out.below hbw (Nat.le_refl _))
      have hsz1 := hbw.size
      clear hb1 hbw
      go_wp2_with (at_builtin; go_must (refine wp_append_V _ rfl _ _ rfl w.heap.size _ ((xs.take k).map toldV) [toldV v] rfl (HO1.out.alloc _) _ _ _ _ rfl rfl (row_lit1 _ _) (by simp only [List.length_cons, List.length_nil]; omega) (by simp; omega) ?_; intro v' w2 hown2 hb2 _))
      have HO2 := Lib.hid hown2
      have HB2 := Lib.hid hb2
      clear hown2 hb2
      go_wp2
      go_roundw
      case rel =>
        refine ⟨k + 1, by omega, by go_num, by rw [told_take xs k v HV.out]; exact HO2.out, ?_⟩
        exact HB.out.trans ((HBW.out.mono hsz).trans (((one_new w1 _).mono (by omega)).trans HB2.out))
      case measure => simp [intOf]; omega
    · obtain rfl : k = n := by omega
      have hall : (xs.take k).map toldV = xs.map toldV := by rw [List.take_of_length_le (by rw [← HN.out]; exact Nat.le_refl _)]
      rw [hall] at HO
      obtain ⟨A9, c9, hv9, _, hr9⟩ := HO.out.row
      rw [List.length_map, ← HN.out] at hv9
      subst hv9
      have HPK := Lib.hid (pk_row A9 (xs.map toldV) k c9 wr (by rw [List.length_map]; exact HN.out) hl HW.out hr9)
      clear hall hr9
      go_wp2_with fail
      refine HPK.out.mono ?_
      rintro e w2 ⟨v2, rfl, hob, hb2⟩
      obtain ⟨A8, n8, c8, rfl, hcv⟩ := conv_B hob
      have HBZ := Lib.hid (HB.out.trans (hb2.mono hsz))
      clear hob hb2
      go_wp2
      go_ret
      exact ⟨rfl, HBZ.out⟩
end Go.Proofs.Ytmdkjhnafnblkaa
