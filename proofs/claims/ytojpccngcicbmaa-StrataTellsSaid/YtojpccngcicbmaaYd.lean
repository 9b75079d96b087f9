/-
  Rules in memory as layer 16 sees them; the names that a rule asks, told by the document.
  Condition: bodies of no more than a thousand literals; texts no longer than texts can be.
-/
import Derived.Test.YtojpccngcicbmaaYc
namespace Go.Proofs.Ytojpccngcicbmaa
open Go.RowKit Go.Maps

/-- A literal: whether it is negated, its name, its terms (where they lie), its kind. -/
structure Lm where
  n : Bool
  s : ByteArray
  A : Option Addr
  m : Nat
  c : Nat
  o : Int
/-- A literal lies at an address. -/
def LmAt (W : World) (a : Addr) (x : Lm) : Prop :=
  W.cell? a = some (.bool x.n) ∧ W.cell? { block := a.block, off := a.off + 1 } = some (.string x.s) ∧ W.cell? { block := a.block, off := a.off + 2 } = some (.slice x.A x.m x.c) ∧ W.cell? { block := a.block, off := a.off + 3 } = some (.int .i64 x.o)
def LmsAt (W : World) (A : Option Addr) (l : List Lm) : Prop := ∀ (i : Nat) (x : Lm), l[i]? = some x → ∃ a : Addr, A = some a ∧ LmAt W (a.add (i * 4)) x
theorem LmAt.below {w w' : World} {a : Addr} {x : Lm} (h : LmAt w a x) (hb : Below w.heap.size w w') : LmAt w' a x := by
  obtain ⟨h0, h1, h2, h3⟩ := h
  have hlt := World.block_lt_of_cell? w _ h0
  exact ⟨(hb.cell hlt).trans h0, (hb.cell (p := { block := a.block, off := a.off + 1 }) hlt).trans h1, (hb.cell (p := { block := a.block, off := a.off + 2 }) hlt).trans h2, (hb.cell (p := { block := a.block, off := a.off + 3 }) hlt).trans h3⟩
theorem LmsAt.below {w w' : World} {A : Option Addr} {l : List Lm} (h : LmsAt w A l) (hb : Below w.heap.size w w') : LmsAt w' A l := by
  intro i x hi
  obtain ⟨a, ha, h1⟩ := h i x hi
  exact ⟨a, ha, h1.below hb⟩
/-- What the layer sees of literals. -/
def lts (l : List Lm) : List Lt := l.map fun x => (x.o, x.s)
theorem lts_at {l : List Lm} {i : Nat} {x : Lm} (h : l[i]? = some x) : (lts l)[i]? = some (x.o, x.s) := by unfold lts; rw [List.getElem?_map, h]; rfl
theorem lts_len (l : List Lm) : (lts l).length = l.length := by unfold lts; rw [List.length_map]
theorem lts_take (l : List Lm) (k : Nat) : (lts l).take k = lts (l.take k) := by unfold lts; rw [List.map_take]
/-- A rule: its kind, name, head (where it lies), aggregate, of, limit, body (where it lies). -/
structure Rl where
  k : Int
  nm : ByteArray
  hA : Option Addr
  hn : Nat
  hc : Nat
  ag : Int
  ofv : ByteArray
  lim : Int
  bA : Option Addr
  bc : Nat
  b : List Lm
def Rl.cells (r : Rl) : List Value := [.int .i64 r.k, .string r.nm, .slice r.hA r.hn r.hc, .int .i64 r.ag, .string r.ofv, .int .i64 r.lim, .slice r.bA r.b.length r.bc]
/-- What the layer asks of a rule: few literals, and texts that can be. -/
def Rl.Ok (W : World) (r : Rl) : Prop := LmsAt W r.bA r.b ∧ r.b.length ≤ 40 ∧ ∀ x ∈ r.b, x.s.size ≤ maxLen
theorem Rl.Ok.below {w w' : World} {r : Rl} (h : r.Ok w) (hb : Below w.heap.size w w') : r.Ok w' := ⟨h.1.below hb, h.2⟩
/-- The names that a rule asks. -/
def Rl.asks (r : Rl) : List ByteArray := asksS (lts r.b)
theorem Rl.asks_len (r : Rl) : r.asks.length ≤ r.b.length := by
  have := asksS_len (lts r.b)
  rw [lts_len] at this
  exact this

set_option maxRecDepth 100000 in
set_option maxHeartbeats 4000000 in
theorem r_asks (r : Rl) (w : World) (hr : r.Ok w) :
    Calls Try.prog 9 #[.agg r.cells.toArray] w fun e w' => ∃ A c, e = .returned (.slice A r.asks.length c) ∧ TxsAt w' A r.asks ∧ Head0 A ∧ Below w.heap.size w w' := by
  obtain ⟨k0, nm, hA, hn, hc, ag, ofv, lim, bA, bc, b⟩ := r
  obtain ⟨hl, hlen, hsz⟩ := hr
  simp only at hl hlen hsz
  have HL := Lib.hid hl
  have HSZ := Lib.hid hsz
  have hx := World.alloc_heap_new w (.cells #[.int .i64 k0, .string nm, .slice hA hn hc, .int .i64 ag, .string ofv, .int .i64 lim, .slice bA b.length bc] 30)
  have HB0 := Lib.hid (one_new w (.cells #[.int .i64 k0, .string nm, .slice hA hn hc, .int .i64 ag, .string ofv, .int .i64 lim, .slice bA b.length bc] 30))
  have N6 := Lib.hid (new_cellT w #[.int .i64 k0, .string nm, .slice hA hn hc, .int .i64 ag, .string ofv, .int .i64 lim, .slice bA b.length bc] 30 6)
  clear hl hsz hx
  unfold Rl.asks Rl.cells
  simp only
  go_enter Try.func9, Try.ntmps9
  go_wp2
  go_loopw [3, 4] (fun v i wr => ∃ (k : Nat) (A : Option Addr) (c : Nat), k ≤ b.length ∧ i = .int .i64 k ∧ v = .slice A (asksS (lts (b.take k))).length c ∧ TxsAt wr A (asksS (lts (b.take k))) ∧ Head0 A ∧ Below (w.heap.size + 1) (w.alloc (.cells #[.int .i64 k0, .string nm, .slice hA hn hc, .int .i64 ag, .string ofv, .int .i64 lim, .slice bA b.length bc] 30)) wr) (fun _ i _ => b.length - (intOf i).toNat)
  case atStart => exact ⟨0, none, 0, Nat.zero_le _, rfl, rfl, fun j s hj => by simp [lts, asksS] at hj, (by intro a h; cases h), Below.refl _ _⟩
  case round =>
    obtain ⟨k, A, c, hk, rfl, rfl, htx, hag, hb⟩ := hrel
    have HB := Lib.hid (HB0.out.trans (hb.mono (by omega)))
    have c6 := (hb.cell (p := ⟨w.heap.size, 6, none⟩) (by simp)).trans N6.out
    have HC6 := Lib.hid c6
    have HTX := Lib.hid htx
    have HBK := Lib.hid hb
    have hlk := HL.out.below HB.out
    have hal := asksS_len (lts (b.take k))
    rw [lts_len, List.length_take] at hal
    have hal2 : (asksS (lts (b.take k))).length ≤ 40 := by omega
    have HSR := Lib.hid (asksS_srt (lts (b.take k)))
    by_cases hlt : k < b.length
    · obtain ⟨x, hx⟩ : ∃ x, b[k]? = some x := ⟨_, List.getElem?_eq_getElem hlt⟩
      obtain ⟨a, rfl, d0, d1, d2, d3⟩ := hlk k x hx
      have hs := asksS_take (lts b) k _ (lts_at hx)
      rw [lts_take, lts_take] at hs
      simp only at hs
      have hxs := HSZ.out x (List.mem_of_getElem? hx)
      have HS := Lib.hid hs
      have HD := Lib.hid d1
      clear hb hlk hs hx d0 d2 hal
      generalize hL : asksS (lts (b.take k)) = L at *
      generalize hL1 : asksS (lts (b.take (k + 1))) = L1 at *
      have HPT := Lib.hid (r_put L A c x.s wr (by omega) HSR.out hxs HTX.out hag)
      have HLE := Lib.hid hL1
      clear hL hL1 htx
      by_cases ho : x.o = 0
      · rw [ho, if_pos rfl] at HS
        rw [ho] at d3
        go_wp2_with fail
        refine HPT.out.mono ?_
        rintro e w2 ⟨A2, c2, rfl, htx2, hag2, hb2⟩
        rw [← HS.out] at htx2 ⊢
        have HT2 := Lib.hid htx2
        have HG2 := Lib.hid hag2
        have HB2 := Lib.hid (HBK.out.trans (hb2.mono (by have := HBK.out.size; simp at this; omega)))
        clear htx2 hag2 hb2
        go_wp2
        go_roundw
        case rel => exact ⟨k + 1, A2, c2, by omega, by go_num, by rw [HLE.out], by rw [HLE.out]; exact HT2.out, HG2.out, HB2.out⟩
        case measure => simp [intOf]; omega
      · rw [if_neg ho] at HS
        go_wp2
        go_roundw
        case rel => exact ⟨k + 1, A, c, by omega, by go_num, by rw [HLE.out, HS.out], by rw [HLE.out, HS.out]; exact HTX.out, hag, HBK.out⟩
        case measure => simp [intOf]; omega
    · have hkk : b.take k = b := List.take_of_length_le (by omega)
      rw [hkk] at HTX
      have HKK := Lib.hid hkk
      clear hb hlk hkk htx
      go_wp2
      go_ret
      exact ⟨A, c, by rw [HKK.out]; rfl, HTX.out, hag, HB.out⟩
end Go.Proofs.Ytojpccngcicbmaa
