/-
  The program's Users: the names of the rules that ask one, as the document tells them.
-/
import Derived.Test.YtojpccngcicbmaaYl
namespace Go.Proofs.Ytojpccngcicbmaa
open Go.RowKit Go.Maps

/-- The names of the rules that ask one, as they come. -/
def askersL (name : ByteArray) (l : List Rl) : List ByteArray := (l.filter fun r => hasX name r.asks).map (·.nm)
theorem askersL_take (name : ByteArray) (l : List Rl) (k : Nat) (r : Rl) (h : l[k]? = some r) : askersL name (l.take (k + 1)) = if hasX name r.asks = true then askersL name (l.take k) ++ [r.nm] else askersL name (l.take k) := by
  unfold askersL
  rw [List.take_add_one, h, List.filter_append, List.map_append]
  cases hq : hasX name r.asks <;> simp [hq]
theorem askersL_len (name : ByteArray) (l : List Rl) : (askersL name l).length ≤ l.length := by
  unfold askersL
  rw [List.length_map]
  exact List.length_filter_le _ _
theorem askers_users (name : ByteArray) (l : List Rl) : riseL (askersL name l) = usersS name l := by
  refine sortedS_one _ _ (riseL_srt _) (asksS_srt _) fun y => ?_
  rw [riseL_mem]
  unfold usersS
  rw [asksS_mem]
  unfold askersL ult
  constructor
  · intro h
    obtain ⟨r, hr, rfl⟩ := List.mem_map.1 h
    obtain ⟨h1, h2⟩ := List.mem_filter.1 hr
    exact ⟨_, List.mem_map.2 ⟨r, h1, rfl⟩, if_pos h2, rfl⟩
  · rintro ⟨z, hz, h1, h2⟩
    obtain ⟨r, hr, rfl⟩ := List.mem_map.1 hz
    refine List.mem_map.2 ⟨r, List.mem_filter.2 ⟨hr, ?_⟩, h2⟩
    simp only at h1
    by_cases h3 : hasX name r.asks = true
    · exact h3
    · rw [if_neg h3] at h1
      exact absurd h1 (by decide)

set_option maxRecDepth 100000 in
set_option maxHeartbeats 4000000 in
theorem p_Users (name : ByteArray) (l : List Rl) (B : Option Addr) (d : Nat) (w : World) (hl : l.length ≤ 100) (hA : RlsAt w B l) :
    Calls Try.prog 12 #[.string name, .slice B l.length d] w fun e w' => ∃ A c, e = .returned (.slice A (usersS name l).length c) ∧ TxsAt w' A (usersS name l) ∧ Head0 A ∧ Below w.heap.size w w' := by
  rw [← askers_users]
  have HA := Lib.hid hA
  clear hA
  go_enter Try.func12, Try.ntmps12
  go_wp2
  go_loopw [5, 10] (fun v i wr => ∃ (k : Nat), k ≤ l.length ∧ i = .int .i64 k ∧ OwnL wr w.heap.size v (askersL name (l.take k)) ∧ Below w.heap.size w wr) (fun _ i _ => l.length - (intOf i).toNat)
  case atStart => exact ⟨0, Nat.zero_le _, rfl, OwnL.nil _ _, Below.refl _ _⟩
  case round =>
    obtain ⟨k, hk, rfl, hown, hb⟩ := hrel
    have HB := Lib.hid hb
    have hlk := HA.out.below HB.out
    have HO := Lib.hid hown
    have hal := askersL_len name (l.take k)
    rw [List.length_take] at hal
    have hal2 : (askersL name (l.take k)).length ≤ 100 := by omega
    clear hb hal
    by_cases hlt : k < l.length
    · obtain ⟨r, hr⟩ : ∃ r, l[k]? = some r := ⟨_, List.getElem?_eq_getElem hlt⟩
      obtain ⟨a, rfl, ⟨d0, d1, d2, d3, d4, d5, d6⟩, hok⟩ := hlk k r hr
      have HS := Lib.hid (askersL_take name l k r hr)
      have hon := one_new wr (.cells #[.int .i64 r.k, .string r.nm, .slice r.hA r.hn r.hc, .int .i64 r.ag, .string r.ofv, .int .i64 r.lim, .slice r.bA r.b.length r.bc] 30)
      have HON := Lib.hid hon
      have N1 := Lib.hid (new_cellT wr #[.int .i64 r.k, .string r.nm, .slice r.hA r.hn r.hc, .int .i64 r.ag, .string r.ofv, .int .i64 r.lim, .slice r.bA r.b.length r.bc] 30 1)
      have HI := Lib.hid (p_asks r name (wr.alloc (.cells #[.int .i64 r.k, .string r.nm, .slice r.hA r.hn r.hc, .int .i64 r.ag, .string r.ofv, .int .i64 r.lim, .slice r.bA r.b.length r.bc] 30)) (hok.below hon))
      unfold Rl.cells at HI
      clear hon hlk hr
      go_wp2_with fail
      refine HI.out.mono ?_
      rintro e w2 ⟨rfl, hb2⟩
      have HB2 := Lib.hid ((HB.out.trans (HON.out.mono HB.out.size)).trans (hb2.mono (by have := HB.out.size; simp; omega)))
      have HO2 := Lib.hid ((HO.out.below HON.out (Nat.le_refl _)).below hb2 (by simp))
      have c1 := (hb2.cell (p := ⟨wr.heap.size, 1, none⟩) (by simp)).trans N1.out
      clear hb2 HI d0 d1 d2 d3 d4 d5 d6 hown
      obtain ⟨A2, c2, rfl⟩ := HO2.out.form
      have hsz2 := HB2.out.size
      rcases Bool.eq_false_or_eq_true (hasX name r.asks) with hz | hz
      · rw [hz] at HS ⊢
        rw [if_pos rfl] at HS
        clear hz
        go_wp2_with (at_builtin; go_must (refine wp_append_L _ rfl (.tmp 17) (.tmp 20) rfl w.heap.size _ (askersL name (l.take k)) r.nm rfl (World.ownsRow.alloc HO2.out _) ⟨w2.heap.size, 0, none⟩ 1 rfl (new_cellT _ _ _ 0) (by omega) (by simp; omega) ?_; intro v' w3 hown3 hb3))
        have HO3 := Lib.hid hown3
        have HB3 := Lib.hid (HB2.out.trans (((one_new w2 _).mono hsz2).trans hb3))
        clear hown3 hb3
        go_wp2
        go_roundw
        case rel => exact ⟨k + 1, by omega, by go_num, by rw [HS.out]; exact HO3.out, HB3.out⟩
        case measure => simp [intOf]; omega
      · rw [hz] at HS ⊢
        rw [if_neg Bool.false_ne_true] at HS
        clear hz
        go_wp2
        go_roundw
        case rel => exact ⟨k + 1, by omega, by go_num, by rw [HS.out]; exact HO2.out, HB2.out⟩
        case measure => simp [intOf]; omega
    · have hkk : l.take k = l := List.take_of_length_le (by omega)
      have hrs := p_rising _ _ _ _ HO.out (by omega) HB.out.size
      rw [hkk] at hrs
      have HR := Lib.hid hrs
      clear hrs hkk hlk hown
      go_wp2_with fail
      refine HR.out.mono ?_
      rintro e w2 ⟨A, c, rfl, htx, hag, hb2⟩
      have HT := Lib.hid htx
      have HB2 := Lib.hid (HB.out.trans hb2)
      clear htx hb2
      go_wp2
      go_ret
      exact ⟨A, c, rfl, HT.out, hag, HB2.out⟩
end Go.Proofs.Ytojpccngcicbmaa
