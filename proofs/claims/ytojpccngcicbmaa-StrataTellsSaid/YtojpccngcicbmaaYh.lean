/-
  Whether a rule has few parts with short texts, told by the document: what follows where it says so.
  Condition: what lies in memory as a rule of any length.
-/
import Derived.Test.YtojpccngcicbmaaYg
namespace Go.Proofs.Ytojpccngcicbmaa
open Go.RowKit Go.Maps

/-- Terms lie at A: each begins with its variable's name. -/
def TmsAt (W : World) (A : Option Addr) (vs : List ByteArray) : Prop := ∀ (j : Nat) (v : ByteArray), vs[j]? = some v → ∃ a : Addr, A = some a ∧ W.cell? (a.add (j * 6)) = some (.string v)
theorem TmsAt.below {w w' : World} {A : Option Addr} {vs : List ByteArray} (h : TmsAt w A vs) (hb : Below w.heap.size w w') : TmsAt w' A vs := by
  intro j v hj
  obtain ⟨a, ha, hc⟩ := h j v hj
  exact ⟨a, ha, (hb.cell (World.block_lt_of_cell? w _ hc)).trans hc⟩
/-- All of a rule that is read. -/
def Rl.Full (W : World) (r : Rl) : Prop :=
  LmsAt W r.bA r.b ∧ (∃ hs : List ByteArray, hs.length = r.hn ∧ TxsAt W r.hA hs) ∧ (∀ x ∈ r.b, x.m ≤ maxLen ∧ ∃ vs : List ByteArray, vs.length = x.m ∧ TmsAt W x.A vs) ∧ r.hn ≤ maxLen ∧ r.b.length ≤ maxLen ∧ r.nm.size ≤ maxLen ∧ r.ofv.size ≤ maxLen
theorem Rl.Full.below {w w' : World} {r : Rl} (h : r.Full w) (hb : Below w.heap.size w w') : r.Full w' := by
  obtain ⟨h1, ⟨hs, h2, h3⟩, h4, h5⟩ := h
  exact ⟨h1.below hb, ⟨hs, h2, h3.below hb⟩, fun x hx => ⟨(h4 x hx).1, let ⟨vs, hv, ht⟩ := (h4 x hx).2; ⟨vs, hv, ht.below hb⟩⟩, h5⟩
/-- What follows where a rule has few parts. (Of its name and its 'of' nothing: the sum of their lengths may wrap.) -/
def Rl.few (r : Rl) : Prop := r.b.length ≤ 40 ∧ ∀ x ∈ r.b, x.s.size ≤ 400

/-- What Few's answer tells. (A definition of its own: the walk would split the answer.) -/
def FewP (few : Prop) (w : World) (e : Ending) (w' : World) : Prop := ∃ q : Bool, e = .returned (.bool q) ∧ (q = true → few) ∧ Below w.heap.size w w'
set_option maxRecDepth 100000 in
set_option maxHeartbeats 8000000 in
theorem r_few (r : Rl) (w : World) (hr : r.Full w) :
    Calls Try.prog 17 #[.agg r.cells.toArray] w fun e w' => FewP r.few w e w' := by
  obtain ⟨k0, nm, hA, hn, hc, ag, ofv, lim, bA, bc, b⟩ := r
  obtain ⟨hl, ⟨hs, hhs, hht⟩, hts, m1, m2, m3, m4⟩ := hr
  simp only at hl hhs hht hts m1 m2 m3 m4
  have HB0 := Lib.hid (one_new w (.cells #[.int .i64 k0, .string nm, .slice hA hn hc, .int .i64 ag, .string ofv, .int .i64 lim, .slice bA b.length bc] 30))
  have N := fun i => new_cellT w #[.int .i64 k0, .string nm, .slice hA hn hc, .int .i64 ag, .string ofv, .int .i64 lim, .slice bA b.length bc] 30 i
  have n1 := N 1
  have n2 := N 2
  have n4 := N 4
  have n6 := N 6
  have N2 := Lib.hid n2
  have N6 := Lib.hid n6
  have HL := Lib.hid hl
  have HHT := Lib.hid hht
  have HTS := Lib.hid hts
  have HHS := Lib.hid hhs
  have HF : Hid (b.length ≤ 40 → (∀ x ∈ b, x.s.size ≤ 400) → Rl.few ⟨k0, nm, hA, hn, hc, ag, ofv, lim, bA, bc, b⟩) := Lib.hid fun h1 h2 => ⟨h1, h2⟩
  unfold maxLen at m1 m2 m3 m4
  clear hl hhs hht hts N
  generalize Rl.few ⟨k0, nm, hA, hn, hc, ag, ofv, lim, bA, bc, b⟩ = few at *
  have HP : Hid (∀ (q : Bool) (w' : World), (q = true → few) → Below w.heap.size w w' → FewP few w (Ending.returned (.bool q)) w') := Lib.hid fun q w' h1 h2 => ⟨q, rfl, h1, h2⟩
  unfold Rl.cells
  simp only
  go_enter Try.func17, Try.ntmps17
  by_cases z1 : (100 : Int) < (hn : Int)
  · go_wp2
    go_ret
    exact HP.out false _ (fun h => absurd h Bool.false_ne_true) HB0.out
  by_cases z2 : (40 : Int) < (b.length : Int)
  · go_wp2
    go_ret
    exact HP.out false _ (fun h => absurd h Bool.false_ne_true) HB0.out
  by_cases z3 : (400 : Int) < wrap64 ((nm.size : Int) + (ofv.size : Int))
  · go_wp2
    go_ret
    exact HP.out false _ (fun h => absurd h Bool.false_ne_true) HB0.out
  go_wp2
  clear n1 n2 n4 n6
  go_loopw [3] (fun i wr => ∃ k : Nat, i = .int .i64 k ∧ k ≤ hn ∧ Below (w.heap.size + 1) (w.alloc (.cells #[.int .i64 k0, .string nm, .slice hA hn hc, .int .i64 ag, .string ofv, .int .i64 lim, .slice bA b.length bc] 30)) wr) (fun i _ => hn - (intOf i).toNat)
  case atStart => exact ⟨0, rfl, by omega, Below.refl _ _⟩
  case round =>
    obtain ⟨k, rfl, hk, hb⟩ := hrel
    have HBK := Lib.hid hb
    have HB := Lib.hid (HB0.out.trans (hb.mono (by omega)))
    have c2 := (hb.cell (p := ⟨w.heap.size, 2, none⟩) (by simp)).trans N2.out
    have c6 := (hb.cell (p := ⟨w.heap.size, 6, none⟩) (by simp)).trans N6.out
    clear hb
    by_cases hlt : k < hn
    · obtain ⟨s, hs2⟩ : ∃ s, hs[k]? = some s := ⟨_, List.getElem?_eq_getElem (by rw [HHS.out]; exact hlt)⟩
      obtain ⟨a, rfl, d0⟩ := (HHT.out.below HB.out) k s hs2
      clear hs2
      by_cases z4 : (400 : Int) < (s.size : Int)
      · go_wp2
        go_ret
        exact HP.out false _ (fun h => absurd h Bool.false_ne_true) HB.out
      · go_wp2
        go_roundw
        case rel => exact ⟨k + 1, by go_num, by omega, HBK.out⟩
        case measure => simp [intOf]; omega
    · go_wp2
      clear c2 c6
      go_loopw [4] (fun i w2 => ∃ j : Nat, i = .int .i64 j ∧ j ≤ b.length ∧ Hid (∀ x ∈ b.take j, x.s.size ≤ 400) ∧ Below (w.heap.size + 1) (w.alloc (.cells #[.int .i64 k0, .string nm, .slice hA hn hc, .int .i64 ag, .string ofv, .int .i64 lim, .slice bA b.length bc] 30)) w2) (fun i _ => b.length - (intOf i).toNat)
      case atStart => exact ⟨0, rfl, by omega, Lib.hid (by simp), HBK.out⟩
      case round =>
        obtain ⟨j, rfl, hj, HJ, hb2⟩ := hrel
        have HBJ := Lib.hid hb2
        have HB2 := Lib.hid (HB0.out.trans (hb2.mono (by omega)))
        have c6 := (hb2.cell (p := ⟨w.heap.size, 6, none⟩) (by simp)).trans N6.out
        clear hb2
        by_cases hlj : j < b.length
        · obtain ⟨x, hx⟩ : ∃ x, b[j]? = some x := ⟨_, List.getElem?_eq_getElem hlj⟩
          obtain ⟨a, rfl, d0, d1, d2, d3⟩ := (HL.out.below HB2.out) j x hx
          obtain ⟨hxm, vs, hvs, hvt⟩ := HTS.out x (List.mem_of_getElem? hx)
          have HX := Lib.hid hx
          have HVS := Lib.hid hvs
          have HVT := Lib.hid hvt
          have HD2 := Lib.hid d2
          unfold maxLen at hxm
          clear hx hvs hvt
          by_cases z5 : (100 : Int) < (x.m : Int)
          · go_wp2
            go_ret
            exact HP.out false _ (fun h => absurd h Bool.false_ne_true) HB2.out
          by_cases z6 : (400 : Int) < (x.s.size : Int)
          · go_wp2
            go_ret
            exact HP.out false _ (fun h => absurd h Bool.false_ne_true) HB2.out
          have HJ2 : Hid (∀ y ∈ b.take (j + 1), y.s.size ≤ 400) := Lib.hid fun y hy => by
            rw [List.take_add_one, HX.out, Option.toList_some] at hy
            rcases List.mem_append.1 hy with h | h
            · exact HJ.out y h
            · rw [List.mem_singleton.1 h]; omega
          go_wp2
          clear c6 d0 d1 d2 d3
          go_loopw [5] (fun i w3 => ∃ u : Nat, i = .int .i64 u ∧ u ≤ x.m ∧ Below (w.heap.size + 1) (w.alloc (.cells #[.int .i64 k0, .string nm, .slice hA hn hc, .int .i64 ag, .string ofv, .int .i64 lim, .slice (some a) b.length bc] 30)) w3 ∧ Below wr.heap.size wr w3) (fun i _ => x.m - (intOf i).toNat)
          case atStart => exact ⟨0, rfl, by omega, HBJ.out, Below.refl _ _⟩
          case round =>
            obtain ⟨u, rfl, hu, hb3, hb4⟩ := hrel
            have HBU := Lib.hid hb3
            have HB3 := Lib.hid (HB0.out.trans (hb3.mono (by omega)))
            have c6 := (hb3.cell (p := ⟨w.heap.size, 6, none⟩) (by simp)).trans N6.out
            have d2 := (hb4.cell (p := { block := (a.add (j * 4)).block, off := (a.add (j * 4)).off + 2 }) (World.block_lt_of_cell? _ _ HD2.out)).trans HD2.out
            have HB4 := Lib.hid hb4
            clear hb3 hb4
            by_cases hlu : u < x.m
            · obtain ⟨v, hv⟩ : ∃ v, vs[u]? = some v := ⟨_, List.getElem?_eq_getElem (by rw [HVS.out]; exact hlu)⟩
              obtain ⟨av, hav, e0⟩ := (HVT.out.below HB3.out) u v hv
              rw [hav] at d2
              clear hv hav
              by_cases z7 : (400 : Int) < (v.size : Int)
              · go_wp2
                go_ret
                exact HP.out false _ (fun h => absurd h Bool.false_ne_true) HB3.out
              · go_wp2
                go_roundw
                case rel => exact ⟨u + 1, by go_num, by omega, HBU.out, HB4.out⟩
                case measure => simp [intOf]; omega
            · go_wp2
              go_roundw
              case rel => exact ⟨j + 1, by go_num, by omega, HJ2, HBU.out⟩
              case measure => simp [intOf]; omega
        · have hjj : b.take j = b := List.take_of_length_le (by omega)
          rw [hjj] at HJ
          clear hjj
          go_wp2
          go_ret
          exact HP.out true _ (fun _ => HF.out (by omega) HJ.out) HB2.out
end Go.Proofs.Ytojpccngcicbmaa
