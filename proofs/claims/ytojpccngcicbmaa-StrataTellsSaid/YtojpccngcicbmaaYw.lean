/-
  The program's Deep: how deep a name stands, or 0.
  No condition but that rules are few, and names no longer than they can be.
-/
import Derived.Test.YtojpccngcicbmaaYu
import Derived.Test.YtojpccngcicbmaaYv
namespace Go.Proofs.Ytojpccngcicbmaa
open Go.RowKit Go.Maps

/-- The map lies in a box, and the function that looks down in another one. -/
structure DeepB (p q n0 b : Nat) (S : List Mn) (W : World) : Prop where
  cell : W.cell? ⟨p, 0, none⟩ = some (.map (some b))
  map : MapsTo W n0 b S
  fn : W.cell? ⟨q, 0, none⟩ = some (.func (.func 34) #[] #[.pointer (some ⟨p, 0, none⟩), .pointer (some ⟨q, 0, none⟩)])
theorem DeepB.below {p q n0 b : Nat} {S : List Mn} {W W' : World} (h : DeepB p q n0 b S W) (hb : Below W.heap.size W W') : DeepB p q n0 b S W' :=
  ⟨(hb.cell (p := ⟨p, 0, none⟩) (World.block_lt_of_cell? W _ h.cell)).trans h.cell, h.map.below hb, (hb.cell (p := ⟨q, 0, none⟩) (World.block_lt_of_cell? W _ h.fn)).trans h.fn⟩
/-- The greatest depth of some. -/
def topS (l : List Rl) (ys : List ByteArray) : Nat := ys.foldl (fun m y => max m (deepS l y)) 0
theorem topS_le (l : List Rl) (ys : List ByteArray) : topS l ys ≤ l.length := foldl_max_le _ _ _ _ (Nat.zero_le _) fun y _ => deepS_le l y
theorem topS_next (l : List Rl) (ys : List ByteArray) (k : Nat) (y : ByteArray) (h : ys[k]? = some y) : topS l (ys.take (k + 1)) = max (topS l (ys.take k)) (deepS l y) := by
  unfold topS
  rw [List.take_add_one, h, List.foldl_append]
  rfl
theorem texts_bel {l : List Rl} (hd : (nms l).Nodup) {S : List Mn} (hk : ∀ s, (findM S s).isSome = hasX s (nms l)) (hL : ∀ x ∈ S, x.2.2 = LL l l.length x.1) {s : ByteArray} (hs : s ∈ nms l) : textsM (findM S s) = bel l s := by
  obtain ⟨r, hr, rfl⟩ := List.mem_map.1 hs
  have := hk r.nm
  rw [hasX_iff.2 hs] at this
  obtain ⟨x, hx⟩ := Option.isSome_iff_exists.1 this
  obtain ⟨h2, h3⟩ := findM_some hx
  rw [hx]
  show x.2.2 = _
  rw [hL x h2, h3, LL_at hd hr, bel_at hd hr]

set_option maxRecDepth 100000 in
set_option maxHeartbeats 2000000 in
theorem p_deep1 (l : List Rl) (hl : l.length ≤ 12) (hd : (nms l).Nodup) (hsz : ∀ r ∈ l, r.nm.size ≤ maxLen) (h40 : ∀ r ∈ l, r.asks.length ≤ 40) (S : List Mn) (hk : ∀ s, (findM S s).isSome = hasX s (nms l)) (hL : ∀ x ∈ S, x.2.2 = LL l l.length x.1) (out : List ByteArray) (hg : OGood l out) (hfull : out.length = l.length) (p q n0 b : Nat) :
    ∀ (i : Nat) (s : ByteArray), out[i]? = some s → ∀ w : World, DeepB p q n0 b S w →
      Calls Try.prog 34 #[.string s, .pointer (some ⟨p, 0, none⟩), .pointer (some ⟨q, 0, none⟩)] w fun e w' => e = .returned (.int .i64 (deepS l s : Nat)) ∧ Below w.heap.size w w' := by
  intro i
  induction i using Nat.strongRecOn with
  | _ i ih =>
    intro s hs w hB
    have hsn : s ∈ nms l := hg.names s (List.mem_of_getElem? hs)
    have hss : s.size ≤ maxLen := by
      obtain ⟨r, hr, rfl⟩ := List.mem_map.1 hsn
      exact hsz r hr
    have hown := hB.map.texts s
    rw [texts_bel hd hk hL hsn] at hown
    have hlk := look_M hB.map s hss
    have h40b : (bel l s).length ≤ 40 := by
      obtain ⟨r, hr, rfl⟩ := List.mem_map.1 hsn
      rw [bel_at hd hr]
      exact Nat.le_trans (List.length_filter_le _ _) (h40 r hr)
    obtain ⟨A, c, hv, _, _, ht, hag⟩ := hown.slice
    rw [hv] at hlk
    have hrec : ∀ y ∈ bel l s, ∀ W, DeepB p q n0 b S W → Calls Try.prog 34 #[.string y, .pointer (some ⟨p, 0, none⟩), .pointer (some ⟨q, 0, none⟩)] W fun e w' => e = .returned (.int .i64 (deepS l y : Nat)) ∧ Below W.heap.size W w' := fun y hy W hW => by
      obtain ⟨j, hj, hy2⟩ := hg.before hs hy
      exact ih j hj y hy2 W hW
    have HR := Lib.hid hrec
    have HBB := Lib.hid hB
    have HT := Lib.hid ht
    have hc1 := hB.cell
    have HE := Lib.hid (show deepS l s = topS l (bel l s) + 1 from deepS_eq hg hfull hs)
    rw [HE.out]
    clear ih hs hsn hown hv hrec hB ht hg hfull hk hL hd hsz h40
    generalize bel l s = ys at *
    clear HE
    go_enter Try.func34, Try.ntmps34
    go_wp2
    clear hlk hc1
    go_loopw [5, 12] (fun v i wr => ∃ k : Nat, k ≤ ys.length ∧ i = .int .i64 k ∧ v = .int .i64 ((topS l (ys.take k) : Nat) : Int) ∧ Below w.heap.size w wr) (fun _ i _ => ys.length - (intOf i).toNat)
    case atStart => exact ⟨0, Nat.zero_le _, rfl, rfl, Below.refl _ _⟩
    case round =>
      obtain ⟨k, hk, rfl, rfl, hb⟩ := hrel
      have HB := Lib.hid hb
      have hle := topS_le l (ys.take k)
      by_cases hlt : k < ys.length
      · obtain ⟨x, hx⟩ : ∃ x, ys[k]? = some x := ⟨_, List.getElem?_eq_getElem hlt⟩
        obtain ⟨g, rfl⟩ := TxsAt.head HT.out hag (by omega)
        have hxc := (HT.out.below hb).at k x hx
        have hfn := (HBB.out.below hb).fn
        have HC := Lib.hid (HR.out x (List.mem_of_getElem? hx) wr (HBB.out.below hb))
        have HNX := Lib.hid (topS_next l ys k x hx)
        have hle2 := deepS_le l x
        clear hb hx
        generalize topS l (ys.take k) = t at *
        generalize deepS l x = u at *
        go_wp2_with fail
        refine HC.out.mono ?_
        rintro e w2 ⟨rfl, hb2⟩
        have HB2 := Lib.hid (HB.out.trans (hb2.mono HB.out.size))
        clear hb2
        go_wp2
        go_roundw
        case rel => exact ⟨k + 1, by omega, by go_num, by rw [HNX.out]; go_num, HB2.out⟩
        case measure => simp [intOf]; omega
      · have hkk : ys.take k = ys := List.take_of_length_le (by omega)
        rw [hkk] at hle ⊢
        clear hb
        go_wp2
        go_ret
        exact ⟨by go_num, HB.out⟩
end Go.Proofs.Ytojpccngcicbmaa
