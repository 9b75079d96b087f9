/-
  The program's Asks: the names that a rule asks, as the document tells them.
-/
import Derived.Test.YtojpccngcicbmaaYk
namespace Go.Proofs.Ytojpccngcicbmaa
open Go.RowKit Go.Maps

/-- The names of the atoms, as they come. -/
def atomsL (b : List Lm) : List ByteArray := (b.filter fun x => x.o == 0).map (·.s)
theorem atomsL_take (b : List Lm) (k : Nat) (x : Lm) (h : b[k]? = some x) : atomsL (b.take (k + 1)) = if (x.o == 0) = true then atomsL (b.take k) ++ [x.s] else atomsL (b.take k) := by
  unfold atomsL
  rw [List.take_add_one, h, List.filter_append, List.map_append]
  cases hq : (x.o == 0) <;> simp [hq]
theorem atomsL_len (b : List Lm) : (atomsL b).length ≤ b.length := by
  unfold atomsL
  rw [List.length_map]
  exact List.length_filter_le _ _
theorem atoms_asks (r : Rl) : riseL (atomsL r.b) = r.asks := by
  refine sortedS_one _ _ (riseL_srt _) (asksS_srt _) fun y => ?_
  rw [riseL_mem]
  unfold Rl.asks
  rw [asksS_mem]
  unfold atomsL lts
  constructor
  · intro h
    obtain ⟨x, hx, rfl⟩ := List.mem_map.1 h
    obtain ⟨h1, h2⟩ := List.mem_filter.1 hx
    exact ⟨(x.o, x.s), List.mem_map.2 ⟨x, h1, rfl⟩, eq_of_beq h2, rfl⟩
  · rintro ⟨z, hz, h1, h2⟩
    obtain ⟨x, hx, rfl⟩ := List.mem_map.1 hz
    exact List.mem_map.2 ⟨x, List.mem_filter.2 ⟨hx, by simp only at h1; rw [h1]; rfl⟩, h2⟩

set_option maxRecDepth 100000 in
set_option maxHeartbeats 4000000 in
theorem p_Asks2 (r : Rl) (w : World) (hr : r.Ok w) :
    Calls Try.prog 8 #[.agg r.cells.toArray] w fun e w' => ∃ A c, e = .returned (.slice A r.asks.length c) ∧ TxsAt w' A r.asks ∧ Head0 A ∧ Below w.heap.size w w' ∧ ∀ a, A = some a → w.heap.size ≤ a.block := by
  rw [← atoms_asks]
  obtain ⟨k0, nm, hA, hn, hc, ag, ofv, lim, bA, bc, b⟩ := r
  obtain ⟨hl, hlen, hsz⟩ := hr
  simp only at hl hlen hsz
  have HL := Lib.hid hl
  have HB0 := Lib.hid (one_new w (.cells #[.int .i64 k0, .string nm, .slice hA hn hc, .int .i64 ag, .string ofv, .int .i64 lim, .slice bA b.length bc] 30))
  have n6 := new_cellT w #[.int .i64 k0, .string nm, .slice hA hn hc, .int .i64 ag, .string ofv, .int .i64 lim, .slice bA b.length bc] 30 6
  clear hl hsz
  unfold Rl.cells
  simp only
  go_enter Try.func8, Try.ntmps8
  go_wp2
  clear n6
  go_loopw [3, 9] (fun v i wr => ∃ (k : Nat), k ≤ b.length ∧ i = .int .i64 k ∧ OwnL wr (w.heap.size + 1) v (atomsL (b.take k)) ∧ Below (w.heap.size + 1) (w.alloc (.cells #[.int .i64 k0, .string nm, .slice hA hn hc, .int .i64 ag, .string ofv, .int .i64 lim, .slice bA b.length bc] 30)) wr) (fun _ i _ => b.length - (intOf i).toNat)
  case atStart => exact ⟨0, Nat.zero_le _, rfl, OwnL.nil _ _, Below.refl _ _⟩
  case round =>
    obtain ⟨k, hk, rfl, hown, hb⟩ := hrel
    have HBK := Lib.hid hb
    have HB := Lib.hid (HB0.out.trans (hb.mono (by omega)))
    have hlk := HL.out.below HB.out
    have HO := Lib.hid hown
    have hal := atomsL_len (b.take k)
    rw [List.length_take] at hal
    have hal2 : (atomsL (b.take k)).length ≤ 40 := by omega
    clear hb hal
    by_cases hlt : k < b.length
    · obtain ⟨x, hx⟩ : ∃ x, b[k]? = some x := ⟨_, List.getElem?_eq_getElem hlt⟩
      obtain ⟨a, rfl, d0, d1, d2, d3⟩ := hlk k x hx
      have HS := Lib.hid (atomsL_take b k x hx)
      clear hlk hx
      have hon := one_new wr (.cells #[.bool x.n, .string x.s, .slice x.A x.m x.c, .int .i64 x.o] 45)
      have HON := Lib.hid hon
      have N1 := Lib.hid (new_cellT wr #[.bool x.n, .string x.s, .slice x.A x.m x.c, .int .i64 x.o] 45 1)
      have HI := Lib.hid (p_isAtom x (wr.alloc (.cells #[.bool x.n, .string x.s, .slice x.A x.m x.c, .int .i64 x.o] 45)))
      have hsz := HBK.out.size
      rw [World.size_alloc] at hsz
      clear hon
      go_wp2_with fail
      refine HI.out.mono ?_
      rintro e w2 ⟨rfl, hb2⟩
      have HB2 := Lib.hid ((HBK.out.trans (HON.out.mono hsz)).trans (hb2.mono (by simp; omega)))
      have HO2 := Lib.hid ((HO.out.below HON.out (Nat.le_refl _)).below hb2 (by simp))
      have c1 := (hb2.cell (p := ⟨wr.heap.size, 1, none⟩) (by simp)).trans N1.out
      clear hb2 HI d0 d1 d2 d3 hown
      obtain ⟨A2, c2, rfl⟩ := HO2.out.form
      have hsz2 := HB2.out.size
      rw [World.size_alloc] at hsz2
      rcases Bool.eq_false_or_eq_true (x.o == 0) with hz | hz
      · rw [hz] at HS ⊢
        rw [if_pos rfl] at HS
        clear hz
        go_wp2_with (at_builtin; go_must (refine wp_append_L _ rfl (.tmp 15) (.tmp 18) rfl (w.heap.size + 1) _ (atomsL (b.take k)) x.s rfl (World.ownsRow.alloc HO2.out _) ⟨w2.heap.size, 0, none⟩ 1 rfl (new_cellT _ _ _ 0) (by omega) (by simp; omega) ?_; intro v' w3 hown3 hb3))
        have HO3 := Lib.hid hown3
        have HB3 := Lib.hid (HB2.out.trans (((one_new w2 _).mono hsz2).trans hb3))
        clear hown3 hb3
        go_wp2
        go_roundw
        case rel => exact ⟨k + 1, by omega, by go_num, by rw [HS.out]; exact HO3.out, HB3.out⟩
        case measure => simp [intOf]; omega
      · rw [hz] at HS ⊢
        rw [if_neg Bool.false_ne_true] at HS
        clear hz
        go_wp2
        go_roundw
        case rel => exact ⟨k + 1, by omega, by go_num, by rw [HS.out]; exact HO2.out, HB2.out⟩
        case measure => simp [intOf]; omega
    · have hkk : b.take k = b := List.take_of_length_le (by omega)
      have hrs := p_rising2 _ _ _ _ HO.out (by omega) (by have := HBK.out.size; simp at this; omega)
      rw [hkk] at hrs
      have HR := Lib.hid hrs
      clear hrs hkk hlk hown
      go_wp2_with fail
      refine HR.out.mono ?_
      rintro e w2 ⟨A, c, rfl, htx, hag, hb2, hfr⟩
      have HT := Lib.hid htx
      have HB2 := Lib.hid (HB.out.trans (hb2.mono (by omega)))
      clear htx hb2
      go_wp2
      go_ret
      exact ⟨A, c, rfl, HT.out, hag, HB2.out, fun a h => by have := hfr a h; omega⟩
theorem p_Asks (r : Rl) (w : World) (hr : r.Ok w) :
    Calls Try.prog 8 #[.agg r.cells.toArray] w fun e w' => ∃ A c, e = .returned (.slice A r.asks.length c) ∧ TxsAt w' A r.asks ∧ Head0 A ∧ Below w.heap.size w w' :=
  (p_Asks2 r w hr).mono fun _ _ ⟨A, c, h1, h2, h3, h4, _⟩ => ⟨A, c, h1, h2, h3, h4⟩
end Go.Proofs.Ytojpccngcicbmaa
