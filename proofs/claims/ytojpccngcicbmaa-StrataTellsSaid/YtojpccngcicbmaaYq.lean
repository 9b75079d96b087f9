/-
  The program's stands: by the names of rules, the names of those of them that each stands on; nothing that was there is changed.
  No condition but that rules are few, and names no longer than they can be.
-/
import Derived.Test.YtojpccngcicbmaaYp
import Derived.Deep.RegionLaw
namespace Go.Proofs.Ytojpccngcicbmaa
open Go.RowKit Go.Maps

/-- The names of rules that a rule asks. -/
def belowA (l : List Rl) (r : Rl) : List ByteArray := r.asks.filter fun y => hasX y (nms l)
/-- What the rules up to place k put behind a name. -/
def LL (l : List Rl) (k : Nat) (s : ByteArray) : List ByteArray := (l.take k).flatMap fun r => if r.nm = s then belowA l r else []
theorem LL_next (l : List Rl) (k : Nat) (r : Rl) (hr : l[k]? = some r) (s : ByteArray) : LL l (k + 1) s = LL l k s ++ if r.nm = s then belowA l r else [] := by
  unfold LL
  rw [List.take_add_one, hr, List.flatMap_append]
  simp
theorem LL_len (l : List Rl) (h40 : ∀ r ∈ l, r.asks.length ≤ 40) (s : ByteArray) : ∀ k, (LL l k s).length ≤ 40 * k := by
  intro k
  induction k with
  | zero => simp [LL]
  | succ k ih =>
    cases hr : l[k]? with
    | none =>
      have : LL l (k + 1) s = LL l k s := by unfold LL; rw [List.take_add_one, hr]; simp
      rw [this]
      omega
    | some r =>
      rw [LL_next l k r hr s, List.length_append]
      have h1 : (if r.nm = s then belowA l r else []).length ≤ 40 := by
        split
        · exact Nat.le_trans (List.length_filter_le _ _) (h40 r (List.mem_of_getElem? hr))
        · exact Nat.zero_le _
      omega
/-- The same, with some of what the next rule asks. -/
def LJ (l : List Rl) (k : Nat) (r : Rl) (j : Nat) (s : ByteArray) : List ByteArray := LL l k s ++ if r.nm = s then (r.asks.take j).filter (fun y => hasX y (nms l)) else []
theorem LJ_zero (l : List Rl) (k : Nat) (r : Rl) (s : ByteArray) : LJ l k r 0 s = LL l k s := by unfold LJ; simp
theorem LJ_done (l : List Rl) (k : Nat) (r : Rl) (hr : l[k]? = some r) (s : ByteArray) : LJ l k r r.asks.length s = LL l (k + 1) s := by
  unfold LJ
  rw [LL_next l k r hr s, List.take_of_length_le (Nat.le_refl _)]
  rfl
theorem LJ_no (l : List Rl) (k : Nat) (r : Rl) (j : Nat) (y : ByteArray) (hy : r.asks[j]? = some y) (hn : hasX y (nms l) = false) (s : ByteArray) : LJ l k r (j + 1) s = LJ l k r j s := by
  unfold LJ
  congr 1
  split
  · rw [List.take_add_one, hy, List.filter_append]
    simp [hn]
  · rfl
theorem LJ_yes (l : List Rl) (k : Nat) (r : Rl) (j : Nat) (y : ByteArray) (hy : r.asks[j]? = some y) (hn : hasX y (nms l) = true) (s : ByteArray) : LJ l k r (j + 1) s = LJ l k r j s ++ if r.nm = s then [y] else [] := by
  unfold LJ
  rw [List.append_assoc]
  congr 1
  split
  · rw [List.take_add_one, hy, List.filter_append]
    simp [hn]
  · rfl
theorem LJ_len (l : List Rl) (h40 : ∀ r ∈ l, r.asks.length ≤ 40) (k : Nat) (r : Rl) (hr : r ∈ l) (j : Nat) (s : ByteArray) : (LJ l k r j s).length ≤ 40 * k + 40 := by
  unfold LJ
  rw [List.length_append]
  have h1 := LL_len l h40 s k
  have h2 : (if r.nm = s then (r.asks.take j).filter (fun y => hasX y (nms l)) else []).length ≤ 40 := by
    split
    · refine Nat.le_trans (List.length_filter_le _ _) ?_
      rw [List.length_take]
      have := h40 r hr
      omega
    · exact Nat.zero_le _
  omega
theorem asks_size (r : Rl) (h : ∀ x ∈ r.b, x.s.size ≤ maxLen) : ∀ y ∈ r.asks, y.size ≤ maxLen := by
  intro y hy
  unfold Rl.asks at hy
  rw [asksS_mem] at hy
  obtain ⟨x, hx, _, rfl⟩ := hy
  unfold lts at hx
  obtain ⟨z, hz, rfl⟩ := List.mem_map.1 hx
  exact h z hz

theorem step_append_L {ops : Array Oper} {o : Oper} {a : Act} {K : Act → World → Prop} {Q : Exit → Act → World → Prop} {E : Prop} (w : World) (hgd : o.guard = none) (s x : Operand)
    (ho : o.op = .call { callee := .builtin .append, args := #[s, x], argTypes := #[26, 26] })
    (base : Nat) (v : Value) (xs : List ByteArray) (p : ByteArray) (hs : a.eval s = v) (hown : OwnL w base v xs) (ad : Addr) (c : Nat) (hx : a.eval x = .slice (some ad) 1 c) (hr : w.cell? ad = some (.string p))
    (hroom : xs.length ≤ 3000000) (hbase : base ≤ w.heap.size)
    (h : ∀ v' w', OwnL w' base v' (xs ++ [p]) → Below base w w' → w.grownBy w' v.ownBlock → (v'.ownBlock = v.ownBlock ∨ v'.ownBlock = some w.heap.size) → K (a.put o.dst v') w') : if Region.wanted o (yielded ops a.tmps) = true then Oper.wp Try.prog o a w K Q else E := by
  rw [if_pos (by unfold Region.wanted; rw [hgd])]
  obtain ⟨i, hi, hz, hsize, hby⟩ := info_parts info_X
  obtain ⟨v', w', hrun, h3, h4, _, h5⟩ := run_append_own_at (P := Try.prog) w base 26 o.type 9 i _ 1 16 Try.underlying26 hi hz hsize hby rfl (by omega) v xs.length (xs.map Value.string) hown ad 1 c [.string p]
      rfl (fun j u hj => by
        cases j with
        | zero =>
          have e : Value.string p = u := by simpa using hj
          subst e
          rw [show ad.add 0 = ad from by simp [Addr.add]]
          exact hr
        | succ j => simp at hj) (by intro u hu; rw [List.mem_singleton.1 hu]; rfl) (by unfold maxLen; omega) (by omega) hbase
  unfold Oper.wp execOp
  simp only [ho, resolve, invoke, builtin, Sem.run_bind, Sem.run_pure, Result.andThen_ok, List.map_toArray, List.map_cons, List.map_nil, hs, hx, hrun]
  refine h v' w' ?_ ((Below.refl _ _).grown h4 hbase (fun k hk => (World.ownsRow.lt hown k hk).1)) h4 h5
  unfold OwnL
  rw [List.length_append, List.map_append]
  exact h3

/-- The blocks from lo to hi have not changed. -/
def SameIn (lo hi : Nat) (w w' : World) : Prop := ∀ q, lo ≤ q → q < hi → w'.heap[q]? = w.heap[q]?
/-- What a call of stands makes. -/
def Stands (w : World) (l : List Rl) (e : Ending) (w' : World) : Prop :=
  ∃ (b : Nat) (S : List Mn), e = .returned (.map (some b)) ∧ MapsTo w' w.heap.size b S ∧ w.heap.size ≤ b ∧ (∀ s, (findM S s).isSome = hasX s (nms l)) ∧ (∀ x ∈ S, x.2.2 = LL l l.length x.1) ∧ Below w.heap.size w w'

set_option maxRecDepth 100000 in
set_option maxHeartbeats 8000000 in
theorem p_stands (l : List Rl) (B : Option Addr) (d : Nat) (w : World) (hl : l.length ≤ 100) (hA : RlsAt w B l) (hsz : ∀ r ∈ l, r.nm.size ≤ maxLen) :
    Calls Try.prog 22 #[.slice B l.length d] w (Stands w l) := by
  have HA := Lib.hid hA
  have HSZ := Lib.hid hsz
  have H40 : Hid (∀ r ∈ l, r.asks.length ≤ 40) := Lib.hid fun r hr => by
    obtain ⟨i, hi, e⟩ := List.getElem_of_mem hr
    obtain ⟨_, _, _, _, h2, _⟩ := hA i r (e ▸ List.getElem?_eq_getElem hi)
    exact Nat.le_trans r.asks_len h2
  have H0 := Lib.hid (mapsTo_new w w.heap.size)
  have hmm := @run_makeMap Try.prog
  clear hA hsz
  go_enter Try.func22, Try.ntmps22
  go_wp2
  go_loopw [15] (fun i wr => ∃ (k : Nat) (S : List Mn), i = .int .i64 k ∧ k ≤ l.length ∧ MapsTo wr w.heap.size w.heap.size S ∧ (∀ s, (findM S s).isSome = hasX s ((nms l).take k)) ∧ (∀ x ∈ S, x.2.2 = []) ∧ S.length ≤ k ∧ Below w.heap.size w wr) (fun i _ => l.length - (intOf i).toNat)
  case atStart => exact ⟨0, [], rfl, Nat.zero_le _, H0.out, fun s => rfl, fun _ h => absurd h List.not_mem_nil, Nat.zero_le _, one_new _ _⟩
  case round =>
    obtain ⟨k, S, rfl, hk, hmap, hkeys, hnil, hlen, hb⟩ := hrel
    have HB := Lib.hid hb
    have hsize := hb.size
    by_cases hlt : k < l.length
    · obtain ⟨r, hr⟩ : ∃ r, l[k]? = some r := ⟨_, List.getElem?_eq_getElem hlt⟩
      obtain ⟨a, rfl, ⟨a0, a1, a2, a3, a4, a5, a6⟩, hok⟩ := (HA.out.below hb) k r hr
      have hon := one_new wr (.cells #[.int .i64 r.k, .string r.nm, .slice r.hA r.hn r.hc, .int .i64 r.ag, .string r.ofv, .int .i64 r.lim, .slice r.bA r.b.length r.bc] 30)
      have hmap1 := hmap.below hon
      obtain ⟨D, h3, h4⟩ := hmap1.map
      have HM1 := Lib.hid hmap1
      have H3 := Lib.hid h3
      have H4 := Lib.hid h4
      have HSR := Lib.hid (HSZ.out r (List.mem_of_getElem? hr))
      have HKS := Lib.hid hkeys
      have HNL := Lib.hid hnil
      have HNX := Lib.hid (hasX_succ · (nms l) k r.nm (nms_at hr))
      have HB1 := Lib.hid (hb.trans (hon.mono hsize))
      clear hmap hmap1 h3 h4 hr hok hb hkeys hnil
      go_wp2_with (at_mapUpdate; refine wpList_mapUpdate_own _ rfl _ _ _ 49 rfl 9 26 lawM Try.underlying49 RpM w.heap.size S.length D rfl H3.out (by unfold maxLen; omega) _ _ (kM r.nm) rfl rfl (Go.WideMaps.keyOf_string_mk Try.underlying9 HSR.out) (.held (.slice none 0 0)) [] rfl ?_; intro w5 hown5 hgrow5)
      have HM5 := Lib.hid (put_nil HM1.out H3.out H4.out r.nm hown5 hgrow5)
      have HB5 := Lib.hid ((HB1.out).grown hgrow5 (by simp; omega) (fun j hj => by injection hj with hj; omega))
      clear hown5 hgrow5
      go_wp2
      go_roundw
      case rel =>
        refine ⟨k + 1, putM S r.nm (.slice none 0 0) [], by go_num, by omega, HM5.out, fun s => ?_, fun x hx => ?_, ?_, HB5.out⟩
        · rw [findM_put, HNX.out]
          by_cases e : s = r.nm
          · subst e
            rw [if_pos rfl]
            simp
          · rw [if_neg e, HKS.out s]
            have : (r.nm.toList == s.toList) = false := by
              cases h : (r.nm.toList == s.toList) with
              | false => rfl
              | true => exact absurd (toList_eqT.1 h).symm e
            rw [this, Bool.or_false]
        · rcases putM_in hx with ⟨h, _⟩ | rfl
          · exact HNL.out x h
          · rfl
        · rw [putM_len]
          split <;> omega
      case measure => simp [intOf]; omega
    · obtain rfl : k = l.length := by omega
      have htk : (nms l).take l.length = nms l := List.take_of_length_le (by rw [nms_len]; exact Nat.le_refl _)
      rw [htk] at hkeys
      have H1 : Hid (∃ (k : Nat) (S : List Mn), (.int .i64 0 : Value) = .int .i64 k ∧ k ≤ l.length ∧ MapsTo wr w.heap.size w.heap.size S ∧ (∀ s, (findM S s).isSome = hasX s (nms l)) ∧ (∀ x ∈ S, x.2.2 = LL l k x.1) ∧ S.length ≤ l.length ∧ Below w.heap.size w wr) := Lib.hid ⟨0, S, rfl, Nat.zero_le _, hmap, hkeys, fun x hx => by rw [hnil x hx]; rfl, hlen, hb⟩
      clear hmap hkeys hnil hb htk hlen
      go_wp2
      go_loopw [25] (fun i wr => ∃ (k : Nat) (S : List Mn), i = .int .i64 k ∧ k ≤ l.length ∧ MapsTo wr w.heap.size w.heap.size S ∧ (∀ s, (findM S s).isSome = hasX s (nms l)) ∧ (∀ x ∈ S, x.2.2 = LL l k x.1) ∧ S.length ≤ l.length ∧ Below w.heap.size w wr) (fun i _ => l.length - (intOf i).toNat)
      case atStart => exact H1.out
      case round =>
        obtain ⟨k, S, rfl, hk, hmap, hkeys, hlists, hlen, hb⟩ := hrel
        have hsize := hb.size
        by_cases hlt : k < l.length
        · obtain ⟨r, hr⟩ : ∃ r, l[k]? = some r := ⟨_, List.getElem?_eq_getElem hlt⟩
          have hrm := List.mem_of_getElem? hr
          obtain ⟨a, rfl, ⟨a0, a1, a2, a3, a4, a5, a6⟩, hok⟩ := (HA.out.below hb) k r hr
          have hon := one_new wr (.cells #[.int .i64 r.k, .string r.nm, .slice r.hA r.hn r.hc, .int .i64 r.ag, .string r.ofv, .int .i64 r.lim, .slice r.bA r.b.length r.bc] 30)
          have hbx := World.alloc_heap_new wr (.cells #[.int .i64 r.k, .string r.nm, .slice r.hA r.hn r.hc, .int .i64 r.ag, .string r.ofv, .int .i64 r.lim, .slice r.bA r.b.length r.bc] 30)
          have HASK := Lib.hid (p_Asks2 r (wr.alloc (.cells #[.int .i64 r.k, .string r.nm, .slice r.hA r.hn r.hc, .int .i64 r.ag, .string r.ofv, .int .i64 r.lim, .slice r.bA r.b.length r.bc] 30)) (hok.below hon))
          unfold Rl.cells at HASK
          have HSR := Lib.hid (HSZ.out r hrm)
          have HAZ := Lib.hid (asks_size r hok.2.2)
          have h40 := H40.out r hrm
          have HLJ := Lib.hid (LJ_len l H40.out k r hrm)
          have HNO := Lib.hid (LJ_no l k r)
          have HYES := Lib.hid (LJ_yes l k r)
          have HDONE := Lib.hid (LJ_done l k r hr)
          have hnk : hasX r.nm (nms l) = true := hasX_iff.2 (List.mem_map.2 ⟨r, hrm, rfl⟩)
          have HNK := Lib.hid hnk
          have HM := Lib.hid (hmap.below hon)
          have HOB : Hid (∀ x ∈ S, ∀ q, x.2.1.ownBlock = some q → q < wr.heap.size) := Lib.hid fun x hx q hq => (World.ownsRow.lt (hmap.own x hx) q hq).2
          have hbl := hmap.lt
          have HKS := Lib.hid hkeys
          have HLS := Lib.hid hlists
          have HB := Lib.hid hb
          have HON := Lib.hid hon
          have HBX := Lib.hid hbx
          obtain ⟨wo, hwo⟩ : ∃ W, W = wr := ⟨_, rfl⟩
          have HWO := Lib.hid hwo
          clear hr hok hmap hkeys hlists hb hon hbx hnk
          go_wp2_with fail
          refine HASK.out.mono ?_
          rintro e w1 ⟨AA, cA, rfl, htx, hag, hb1, hfr⟩
          have hs1 := hb1.size
          rw [World.size_alloc] at hs1
          have HTX := Lib.hid htx
          have HAG := Lib.hid hag
          have HFR : Hid (∀ a, AA = some a → wo.heap.size + 1 ≤ a.block) := Lib.hid fun a ha => by
            have := hfr a ha
            rw [World.size_alloc] at this
            rw [hwo]
            exact this
          have hbox1 := (hb1.block wr.heap.size (by simp)).trans HBX.out
          rw [← hwo] at hbox1 hs1 hbl HOB HB hsize
          have HBOX := Lib.hid hbox1
          have H2 : Hid (∃ (j : Nat) (S : List Mn), (.int .i64 0 : Value) = .int .i64 j ∧ j ≤ r.asks.length ∧ MapsTo w1 w.heap.size w.heap.size S ∧ (∀ s, (findM S s).isSome = hasX s (nms l)) ∧ (∀ x ∈ S, x.2.2 = LJ l k r j x.1) ∧ S.length ≤ l.length ∧ Below w.heap.size w w1 ∧ w1.heap.size ≤ w1.heap.size ∧ SameIn wo.heap.size w1.heap.size w1 w1 ∧ ∀ x ∈ S, ∀ q, x.2.1.ownBlock = some q → q < wo.heap.size ∨ w1.heap.size ≤ q) :=
            Lib.hid ⟨0, S, rfl, Nat.zero_le _, HM.out.below hb1, HKS.out, fun x hx => by rw [HLS.out x hx, LJ_zero], hlen, HB.out.trans (by rw [hwo]; exact (HON.out.mono (by rw [← hwo]; exact hsize)).trans (hb1.mono (by rw [World.size_alloc, ← hwo]; omega))), Nat.le_refl _, fun _ _ _ => rfl, fun x hx q hq => .inl (HOB.out x hx q hq)⟩
          clear htx hag hb1 hfr hbox1 HASK HM HON HBX a0 a1 a2 a3 a4 a5 a6
          go_wp2
          go_loopw [32] (fun i wx => ∃ (j : Nat) (S : List Mn), i = .int .i64 j ∧ j ≤ r.asks.length ∧ MapsTo wx w.heap.size w.heap.size S ∧ (∀ s, (findM S s).isSome = hasX s (nms l)) ∧ (∀ x ∈ S, x.2.2 = LJ l k r j x.1) ∧ S.length ≤ l.length ∧ Below w.heap.size w wx ∧ w1.heap.size ≤ wx.heap.size ∧ SameIn wo.heap.size w1.heap.size w1 wx ∧ ∀ x ∈ S, ∀ q, x.2.1.ownBlock = some q → q < wo.heap.size ∨ w1.heap.size ≤ q) (fun i _ => r.asks.length - (intOf i).toNat)
          case atStart => exact H2.out
          case round =>
            obtain ⟨j, S2, rfl, hj, hmap, hkeys, hlists, hlen2, hb, hsx, hsame, hobs⟩ := hrel
            by_cases hjl : j < r.asks.length
            · obtain ⟨g, rfl⟩ := HTX.out.head HAG.out (by omega)
              obtain ⟨y, hy⟩ : ∃ y, r.asks[j]? = some y := ⟨_, List.getElem?_eq_getElem hjl⟩
              have cy1 := HTX.out.at j y hy
              have hgl : g < w1.heap.size := World.block_lt_of_cell? w1 _ cy1
              have hgf : wo.heap.size + 1 ≤ g := HFR.out _ rfl
              have cy : wr.cell? ⟨g, j, none⟩ = some (.string y) := (World.cell?_of_block (w := w1) (a := ⟨g, j, none⟩) (hsame g (by omega) hgl)).trans cy1
              have hboxw : wr.heap[wo.heap.size]? = _ := (hsame wo.heap.size (Nat.le_refl _) (by omega)).trans HBOX.out
              have hysz : y.size ≤ maxLen := HAZ.out y (List.mem_of_getElem? hy)
              have hlk := look_M2 hmap y hysz
              rw [hkeys y] at hlk
              have HY := Lib.hid hy
              have HLK := Lib.hid hlk
              have HM := Lib.hid hmap
              have HK := Lib.hid hkeys
              have HLS2 := Lib.hid hlists
              have HB2 := Lib.hid hb
              have HSM := Lib.hid hsame
              have HOB2 := Lib.hid hobs
              have HBXW := Lib.hid hboxw
              clear hy cy1 hlk hmap hkeys hlists hb hsame hobs hboxw
              cases hin : hasX y (nms l) with
              | false =>
                have HN := Lib.hid (HNO.out j y HY.out hin)
                rw [hin] at HLK
                have hlk := HLK.out
                generalize valM (findM S2 y) = vv at *
                clear hin
                go_wp2
                go_roundw
                case rel => exact ⟨j + 1, S2, by go_num, by omega, HM.out, HK.out, fun x hx => by rw [HLS2.out x hx, HN.out], hlen2, HB2.out, hsx, HSM.out, HOB2.out⟩
                case measure => simp [intOf]; omega
              | true =>
                have HN := Lib.hid (HYES.out j y HY.out hin)
                rw [hin] at HLK
                have hlk := HLK.out
                generalize valM (findM S2 y) = vv at *
                clear hin
                have hfn : ∃ x0, findM S2 r.nm = some x0 := Option.isSome_iff_exists.1 (by rw [HK.out]; exact HNK.out)
                obtain ⟨⟨x1, v0, t0⟩, hx0⟩ := hfn
                obtain ⟨hx0m, hx0e⟩ := findM_some hx0
                simp only at hx0e
                subst hx0e
                have hown0 : OwnL wr w.heap.size v0 t0 := HM.out.own _ hx0m
                have ht0 : t0 = LJ l k r j r.nm := HLS2.out _ hx0m
                have hll := HLJ.out j r.nm
                have hl0 : t0.length ≤ 40 * 100 + 40 := by rw [ht0]; omega
                obtain ⟨A0, c0, hv0⟩ := hown0.form
                subst hv0
                have e1 : wr.cell? ⟨wo.heap.size, 1, none⟩ = some (.string r.nm) := cell_of_row wr wo.heap.size 1 _ _ _ HBXW.out
                have hon2 := one_new wr (.cells #[.string y] 9)
                have hvl0 := HOB2.out _ hx0m
                have HE5 : Hid (∀ w5 : World, ((wr.alloc (.cells #[.string y] 9)).drew).grownBy w5 (Value.slice A0 t0.length c0).ownBlock → w5.cell? ⟨wo.heap.size, 1, none⟩ = some (.string r.nm)) := Lib.hid fun w5 h2 => by
                  refine (World.cell?_of_block (w := wr) (a := ⟨wo.heap.size, 1, none⟩) ?_).trans e1
                  rw [h2.block wo.heap.size (by rw [World.size_drew, World.size_alloc]; omega) (fun e => by
                    rcases hvl0 wo.heap.size e.symm with h | h <;> omega)]
                  exact Below.heap_alloc _ _ _ (by omega)
                have e2 := (hon2.cell (p := ⟨wo.heap.size, 1, none⟩) (by show wo.heap.size < wr.heap.size; omega)).trans e1
                rw [HWO.out] at e1 e2 HE5
                have l1 := look_M (HM.out.below (Below.drew (Below.refl wr.heap.size wr))) r.nm HSR.out
                have l2 := look_M (HM.out.below ((hon2).drew)) r.nm HSR.out
                rw [hx0] at l1 l2
                unfold valM at l1 l2
                simp only at l1 l2
                have HPUT : Hid (∀ (v' : Value) (w5 : World), OwnL w5 w.heap.size v' (t0 ++ [y]) → ((wr.alloc (.cells #[.string y] 9)).drew).grownBy w5 (Value.slice A0 t0.length c0).ownBlock → (v'.ownBlock = (Value.slice A0 t0.length c0).ownBlock ∨ v'.ownBlock = some ((wr.alloc (.cells #[.string y] 9)).drew).heap.size) → ∃ w7, (Instr.mapUpdate 49 (.map (some w.heap.size)) (.string r.nm) v').run Try.prog w5 = .ok () w7 ∧ w5.grownBy w7 (some w.heap.size) ∧ MapsTo w7 w.heap.size w.heap.size (putM S2 r.nm v' (t0 ++ [y]))) :=
                  Lib.hid fun v' w5 h1 h2 h3 => put_grown HM.out r.nm HSR.out (by omega) hx0 v' _ h1 (fun q hq hne => by
                    rw [h2.block q (by rw [World.size_drew, World.size_alloc]; omega) hne]
                    exact Below.heap_alloc _ _ _ hq) (fun q hq => by
                    rcases h3 with h | h
                    · exact .inl (by rw [← h]; exact hq)
                    · rw [h] at hq
                      injection hq with hq
                      rw [World.size_drew, World.size_alloc] at hq
                      exact .inr (by omega))
                have HOWN0 := Lib.hid hown0
                have HT0 := Lib.hid ht0
                have HFND := Lib.hid hx0
                have hvnb := HM.out.notMap hx0m
                have HVN := Lib.hid hvnb
                have hvl := HOB2.out _ hx0m
                have HVL := Lib.hid hvl
                have hblw := HM.out.lt
                clear hx0 hx0m hown0 ht0 hvnb hvl hvl0 hll hon2
                go_wp2
                go_region_law
                  ((refine step_append_L ((wr.alloc (.cells #[.string y] 9)).drew) (by rfl) _ _ (by rfl) w.heap.size (.slice A0 t0.length c0) t0 y (by rfl) (by exact World.ownsRow.alloc HOWN0.out _) ⟨wr.heap.size, 0, none⟩ 1 (by rfl) (by exact new_cellT wr _ _ 0) (by omega) (by simp; omega) ?_; intro v' w5 hown5 hb5 hg5 hor5; obtain ⟨w7, hrun7, hg7, hm7⟩ := HPUT.out v' w5 hown5 hg5 hor5; have e5 := HE5.out w5 hg5))
                all_goals
                  have hs5 := hg5.size
                  rw [World.size_drew, World.size_alloc] at hs5
                  have hs7 := hg7.size
                  have hsame7 : SameIn wo.heap.size w1.heap.size w1 w7 := fun q h1 h2 => by
                    rw [hg7.block q (by omega) (fun e => by injection e with e; omega), hg5.block q (by rw [World.size_drew, World.size_alloc]; omega) (fun e => by
                      rcases HVL.out q e.symm with h | h <;> omega)]
                    exact (Below.heap_alloc _ _ _ (by omega)).trans (HSM.out q h1 h2)
                  have hb7 : Below w.heap.size w w7 := ((HB2.out.trans (((one_new wr (.cells #[.string y] 9)).mono (by omega)).drew)).trans hb5).grown hg7 (by omega) (fun q hq => by injection hq with hq; omega)
                  have hob7 : ∀ x ∈ putM S2 r.nm v' (t0 ++ [y]), ∀ q, x.2.1.ownBlock = some q → q < wo.heap.size ∨ w1.heap.size ≤ q := fun x hx q hq => by
                    rcases putM_in hx with ⟨h, _⟩ | rfl
                    · exact HOB2.out x h q hq
                    · rcases hor5 with h | h
                      · exact HVL.out q (by rw [← h]; exact hq)
                      · have hq2 : v'.ownBlock = some q := hq
                        rw [h] at hq2
                        injection hq2 with hq2
                        rw [World.size_drew, World.size_alloc] at hq2
                        exact .inr (by omega)
                  have hli7 : ∀ x ∈ putM S2 r.nm v' (t0 ++ [y]), x.2.2 = LJ l k r (j + 1) x.1 := fun x hx => by
                    rw [HN.out]
                    rcases putM_in hx with ⟨h, hne⟩ | rfl
                    · rw [if_neg (fun e => hne e.symm), List.append_nil]
                      exact HLS2.out x h
                    · show t0 ++ [y] = LJ l k r j r.nm ++ if r.nm = r.nm then [y] else []
                      rw [if_pos rfl, HT0.out]
                  have hke7 : ∀ s, (findM (putM S2 r.nm v' (t0 ++ [y])) s).isSome = hasX s (nms l) := fun s => by
                    rw [findM_put]
                    split
                    · next e => rw [e, HNK.out]; rfl
                    · exact HK.out s
                  have hle7 : (putM S2 r.nm v' (t0 ++ [y])).length ≤ l.length := by
                    rw [putM_len, HFND.out]
                    exact hlen2
                  have H7 := Lib.hid hsame7
                  have HB7 := Lib.hid hb7
                  have HO7 := Lib.hid hob7
                  have HL7 := Lib.hid hli7
                  have HK7 := Lib.hid hke7
                  have HM7 := Lib.hid hm7
                  clear hsame7 hb7 hob7 hli7 hke7 hm7 hown5 hb5 hg5 hor5 hg7 e5 e1 e2 l1 l2 hrun7
                  go_wp2
                  go_roundw
                  case rel => exact ⟨j + 1, _, by go_num, by omega, HM7.out, HK7.out, HL7.out, hle7, HB7.out, by omega, H7.out, HO7.out⟩
                  case measure => simp [intOf]; omega
            · obtain rfl : j = r.asks.length := by omega
              have H3 : Hid (∀ x ∈ S2, x.2.2 = LL l (k + 1) x.1) := Lib.hid fun x hx => by rw [hlists x hx, HDONE.out]
              have HM := Lib.hid hmap
              have HK := Lib.hid hkeys
              have HB2 := Lib.hid hb
              clear hmap hkeys hlists hb hsame hobs
              go_wp2
              go_roundw
              case rel => exact ⟨k + 1, S2, by go_num, by omega, HM.out, HK.out, H3.out, hlen2, HB2.out⟩
              case measure => simp [intOf]; omega
        · obtain rfl : k = l.length := by omega
          have HM := Lib.hid hmap
          have HK := Lib.hid hkeys
          have HL := Lib.hid hlists
          have HB := Lib.hid hb
          clear hmap hkeys hlists hb
          go_wp2
          go_ret
          exact ⟨_, S, rfl, HM.out, Nat.le_refl _, HK.out, HL.out, HB.out⟩
end Go.Proofs.Ytojpccngcicbmaa
