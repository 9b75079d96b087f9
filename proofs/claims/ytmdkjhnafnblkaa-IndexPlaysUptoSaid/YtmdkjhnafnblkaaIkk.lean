/-
  The document's own index: New and Add.
  Condition: no more than one million one hundred thousand places.
  The document's own index: Find.
  Condition: no more than one million one hundred thousand places; no more rows than fit.
  The document's own index: Keys.
  Condition: no more than one million one hundred thousand places; no more rows than fit.
-/
import Derived.Test.YtmdkjhnafnblkaaIxput
import Derived.Test.YtmdkjhnafnblkaaRaddo
import Derived.Test.YtmdkjhnafnblkaaIkt
namespace Go.Proofs.Ytmdkjhnafnblkaa
open Go.RowKit Go.Maps

theorem any_no {cs : List Int} (h : cs.any badC = false) {k : Nat} {z : Int} (hz : cs[k]? = some z) : badC z = false := by
  rw [List.any_eq_false] at h
  have := h z (List.mem_of_getElem? hz)
  simpa using this
theorem badC_iff (z : Int) : badC z = true ↔ z < 0 ∨ 40 ≤ z := by
  unfold badC
  rw [Bool.or_eq_true, decide_eq_true_eq, decide_eq_true_eq]

set_option maxHeartbeats 1000000 in
theorem rx_new_ok (A : Option Addr) (cols : List Int) (n c : Nat) (w : World) (hn : n = cols.length) (hl : n ≤ 1100000) (hx : IntsAt w w.heap.size A cols) (hg : cols.any badC = false) :
    Calls Try.prog 19 #[.slice A n c] w fun e w' => e = .returned (.tuple #[.pointer (some ⟨w.heap.size, 0, none⟩), .int .i64 0]) ∧ w' = w.alloc (.cells #[.slice A n c, .slice none 0 0] 45) := by
  have HX := Lib.hid hx
  have HN := Lib.hid hn
  have HG := Lib.hid hg
  clear hx hn hg
  go_enter Try.func19, Try.ntmps19
  go_wp2
  go_loopw [4] (fun i wr => ∃ k : Nat, k ≤ n ∧ i = .int .i64 k ∧ w = wr) (fun i _ => n - (intOf i).toNat)
  case atStart => exact ⟨0, Nat.zero_le _, rfl, rfl⟩
  case round =>
    obtain ⟨k, hk, rfl, rfl⟩ := hrel
    by_cases h1 : k < n
    · obtain ⟨z, hz⟩ : ∃ z, cols[k]? = some z := ⟨_, List.getElem?_eq_getElem (by rw [← HN.out]; exact h1)⟩
      obtain ⟨a, rfl, ha, a0⟩ := HX.out k z hz
      have hb := any_no HG.out hz
      have hb2 : ¬ (z < 0 ∨ 40 ≤ z) := fun h => by rw [(badC_iff z).2 h] at hb; cases hb
      have g1 : decide (z < 0) = false := by simp; omega
      have g2 : decide (40 ≤ z) = false := by simp; omega
      clear hz hb hb2
      go_wp2
      go_roundw
      case rel => exact ⟨k + 1, by omega, by go_num, by trivial⟩
      case measure => simp [intOf]; omega
    · obtain rfl : k = n := by omega
      go_wp2
      go_ret2
      exact ⟨rfl, rfl⟩
set_option maxHeartbeats 1000000 in
theorem rx_new_no (A : Option Addr) (cols : List Int) (n c : Nat) (w : World) (hn : n = cols.length) (hl : n ≤ 1100000) (hx : IntsAt w w.heap.size A cols) (hg : cols.any badC = true) :
    Calls Try.prog 19 #[.slice A n c] w fun e w' => e = .returned (.tuple #[.pointer none, .int .i64 2]) ∧ w = w' := by
  have HX := Lib.hid hx
  have HN := Lib.hid hn
  have HG := Lib.hid hg
  clear hx hn hg
  go_enter Try.func19, Try.ntmps19
  go_wp2
  go_loopw [4] (fun i wr => ∃ k : Nat, k ≤ n ∧ i = .int .i64 k ∧ (cols.drop k).any badC = true ∧ w = wr) (fun i _ => n - (intOf i).toNat)
  case atStart => exact ⟨0, Nat.zero_le _, rfl, HG.out, rfl⟩
  case round =>
    obtain ⟨k, hk, rfl, hq, rfl⟩ := hrel
    have HQ := Lib.hid hq
    clear hq
    by_cases h1 : k < n
    · obtain ⟨z, hz⟩ : ∃ z, cols[k]? = some z := ⟨_, List.getElem?_eq_getElem (by rw [← HN.out]; exact h1)⟩
      obtain ⟨a, rfl, ha, a0⟩ := HX.out k z hz
      have hd := any_drop_i cols k z hz
      rw [HQ.out] at hd
      have HD := Lib.hid hd
      clear hz hd
      by_cases z1 : z < 0
      · have g1 : decide (z < 0) = true := by simpa using z1
        go_wp2
        go_ret2
        exact ⟨rfl, rfl⟩
      · have g1 : decide (z < 0) = false := by simpa using z1
        by_cases z2 : 40 ≤ z
        · have g2 : decide (40 ≤ z) = true := by simpa using z2
          go_wp2
          go_ret2
          exact ⟨rfl, rfl⟩
        · have g2 : decide (40 ≤ z) = false := by simpa using z2
          have hb : badC z = false := by unfold badC; rw [g1, g2]; rfl
          have HB := Lib.hid hb
          clear hb
          go_wp2
          go_roundw
          case rel => exact ⟨k + 1, by omega, by go_num, by have h := HD.out; rw [HB.out, Bool.false_or] at h; exact h.symm, by trivial⟩
          case measure => simp [intOf]; omega
    · obtain rfl : k = n := by omega
      have h := HQ.out
      rw [List.drop_of_length_le (by rw [← HN.out]; exact Nat.le_refl _)] at h
      cases h

/-- The document's index in the box s: its places and its bag's list. -/
def RefX (w : World) (Q : Nat → Prop) (s : Nat) (A : Option Addr) (c : Nat) (cols : List Int) (L : List En) : Prop :=
  RefL 1 45 (fun v => #[.slice A cols.length c, v]) w Q s L ∧ IntsQ w Q A cols
theorem at9_two (u : Value) : At9 1 (fun v => #[u, v]) := fun _ => ⟨rfl, fun _ => rfl⟩
theorem RefX.new (w : World) (Q : Nat → Prop) (A : Option Addr) (c : Nat) (cols : List Int) (hx : IntsQ w Q A cols) : RefX (w.alloc (.cells #[.slice A cols.length c, .slice none 0 0] 45)) Q w.heap.size A c cols [] :=
  ⟨⟨Good.nil, by simp, none, 0, fun _ => rfl, Nat.le_refl _, ⟨at9_two _, heap_alloc_new w _⟩, [], trivial, fun j u hj => by simp [flatE] at hj, by simp⟩, hx.keep (Below.keepQ (one_new w _) Q) (fun _ _ h => h)⟩
theorem RefX.cols {w : World} {Q : Nat → Prop} {s : Nat} {A : Option Addr} {c : Nat} {cols : List Int} {L : List En} (h : RefX w Q s A c cols L) : w.cell? ⟨s, 0, none⟩ = some (.slice A cols.length c) := by
  obtain ⟨⟨_, _, Lp, cp, _, _, hb, _⟩, _⟩ := h
  exact cell_of_row w s 0 _ _ _ hb.2

set_option maxHeartbeats 1000000 in
theorem rx_add_no (R Q : Nat → Prop) (v : Value) (x : List V) (k : Int) (s : Nat) (A : Option Addr) (c : Nat) (cols : List Int) (L : List En) (w : World) (hX : RefX w Q s A c cols L) (hcl : cols.length ≤ 1100000) (hx : IsRow w R v x) (hno : rightR x = false ∨ pickR x cols = ([], 2)) :
    Calls Try.prog 22 #[.pointer (some ⟨s, 0, none⟩), v, .int .i64 k] w fun e w' => e = .returned (.int .i64 2) ∧ Below w.heap.size w w' := by
  have c0 := hX.cols
  have HR := Lib.hid (fun W (hb : Below w.heap.size w W) => ref_right_rows R v x W (hx.below hb))
  obtain ⟨-, Av, cv, hv, -, hr⟩ := id hx
  have HPK := Lib.hid (ref_pick Av A x cols x.length cols.length cv c w rfl rfl hcl hr.at hX.2.at)
  have HNO := Lib.hid hno
  subst hv
  clear hX hx hr hno
  rcases HNO.out with hq | hq
  · have HQ := Lib.hid hq
    clear hq
    obtain ⟨q, hq2⟩ : ∃ q, (pickR x cols).2 = q := ⟨_, rfl⟩
    go_enter Try.func22, Try.ntmps22
    go_wp2_with fail
    refine HPK.out.mono ?_
    rintro e w1 ⟨kv, rfl, hown, hb1⟩
    obtain ⟨Ak, ck, rfl, _, _⟩ := hown.row
    have HB1 := Lib.hid hb1
    clear hown hb1
    go_wp2_with fail
    refine (HR.out _ HB1.out).mono ?_
    rintro e w2 ⟨rfl, hb2⟩
    rw [HQ.out]
    have HB2 := Lib.hid (HB1.out.trans (hb2.mono HB1.out.size))
    clear hb2
    go_wp2
    go_ret
    exact ⟨rfl, HB2.out⟩
  · rw [hq] at HPK
    clear hq
    go_enter Try.func22, Try.ntmps22
    go_wp2_with fail
    refine HPK.out.mono ?_
    rintro e w1 ⟨kv, rfl, hown, hb1⟩
    obtain ⟨Ak, ck, rfl, _, _⟩ := hown.row
    have HB1 := Lib.hid hb1
    clear hown hb1
    go_wp2_with fail
    refine (HR.out _ HB1.out).mono ?_
    rintro e w2 ⟨rfl, hb2⟩
    have HB2 := Lib.hid (HB1.out.trans (hb2.mono HB1.out.size))
    clear hb2
    rcases Bool.eq_false_or_eq_true (rightR x) with hr | hr
    · rw [hr]
      go_wp2
      go_ret
      exact ⟨rfl, HB2.out⟩
    · rw [hr]
      go_wp2
      go_ret
      exact ⟨rfl, HB2.out⟩
set_option maxHeartbeats 1000000 in
theorem rx_add_ok (R Q : Nat → Prop) (v : Value) (x ks : List V) (k : Int) (s : Nat) (A : Option Addr) (c : Nat) (cols : List Int) (L : List En) (w : World) (hQ : ∀ k, w.heap.size ≤ k → Q k) (hs : ¬ Q s) (hX : RefX w Q s A c cols L) (hcl : cols.length ≤ 1100000) (hx : IsRow w R v x) (hr : rightR x = true) (hp : pickR x cols = (ks, 0)) (hL : L.length ≤ 600000) :
    Calls Try.prog 22 #[.pointer (some ⟨s, 0, none⟩), v, .int .i64 k] w fun e w' => e = .returned (.int .i64 (addL x k L).2) ∧ RefX w' Q s A c cols (addL x k L).1 ∧ Below 0 w w' ∧ (∀ j, j < w.heap.size → j ≠ s → w'.heap[j]? = w.heap[j]?) := by
  have c0 := hX.cols
  have HR := Lib.hid (fun W (hb : Below w.heap.size w W) => ref_right_rows R v x W (hx.below hb))
  have HA := Lib.hid (fun W (hb : Below w.heap.size w W) => r_add R v x k Q s L W (fun j hj => hQ j (Nat.le_trans hb.size hj)) hs (hx.below hb) (hX.1.below hb) hL)
  have HI := Lib.hid hX.2
  have HS := Lib.hid hs
  obtain ⟨-, Av, cv, hv, -, hrq⟩ := id hx
  have HPK := Lib.hid (ref_pick Av A x cols x.length cols.length cv c w rfl rfl hcl hrq.at hX.2.at)
  rw [hp] at HPK
  have HRR := Lib.hid hr
  subst hv
  clear hX hx hrq hr hp hQ hs
  go_enter Try.func22, Try.ntmps22
  go_wp2_with fail
  refine HPK.out.mono ?_
  rintro e w1 ⟨kv, rfl, hown, hb1⟩
  obtain ⟨Ak, ck, rfl, _, _⟩ := hown.row
  have HB1 := Lib.hid hb1
  clear hown hb1
  go_wp2_with fail
  refine (HR.out _ HB1.out).mono ?_
  rintro e w2 ⟨rfl, hb2⟩
  rw [HRR.out]
  have HB2 := Lib.hid (HB1.out.trans (hb2.mono HB1.out.size))
  clear hb2
  go_wp2_with fail
  refine (HA.out _ HB2.out).mono ?_
  rintro e w3 ⟨rfl, hr3, ho3⟩
  have HR3 := Lib.hid hr3
  have HO3 := Lib.hid ho3
  clear hr3 ho3
  go_wp2
  go_ret
  have hz := HB2.out.size
  refine ⟨rfl, ⟨HR3.out, (HI.out.keep (Below.keepQ HB2.out Q) (fun _ _ h => h)).keep (HO3.out.keepQ HS.out) (fun _ _ h => h)⟩, (HB2.out.mono (Nat.zero_le _)).trans (HO3.out.1.mono (Nat.zero_le _)), fun j hj hne => (HO3.out.2 j (by omega) hne).trans (HB2.out.block j hj)⟩

/-- Does a row have this key? -/
def hitK (cols : List Int) (key : List V) (e : En) : Bool := cmpR (pickR e.1 cols).1 key == 0

theorem pick_len (xs : List V) (cols : List Int) : (pickR xs cols).1.length ≤ cols.length := by
  unfold pickR
  split <;> simp

set_option maxRecDepth 100000 in
set_option maxHeartbeats 2000000 in
theorem rx_find (Q : Nat → Prop) (s : Nat) (A : Option Addr) (c : Nat) (cols : List Int) (L : List En) (B : Option Addr) (key : List V) (m d : Nat) (w : World) (hQ : ∀ k, w.heap.size ≤ k → Q k) (hX : RefX w Q s A c cols L) (hcl : cols.length ≤ 1100000) (hm : m = key.length) (hk : RowAt w w.heap.size B key) (hfit : ∀ e ∈ L, Fit (pickR e.1 cols).1) (hL : L.length ≤ 600000) :
    Calls Try.prog 26 #[.pointer (some ⟨s, 0, none⟩), .slice B m d] w fun y w' => ∃ v ls, y = .returned v ∧ OwnE w' w.heap.size v ls ∧ EnR w' Q ls (L.filter (hitK cols key)) ∧ Below w.heap.size w w' := by
  have c0 := hX.cols
  obtain ⟨⟨-, -, Lp, cp, -, -, hbox, hent⟩, hints⟩ := hX
  have c1 := hbox.cell
  have hsl := hbox.lt
  have HE := Lib.hid (hent.imp (Q' := fun k => Q k ∧ k < w.heap.size) (fun k hk h => ⟨h, hk⟩))
  have HI := Lib.hid hints
  have HK := Lib.hid hk
  have HF := Lib.hid hfit
  have HQ := Lib.hid hQ
  have HM := Lib.hid hm
  have C0 := Lib.hid c0
  have C1 := Lib.hid c1
  clear hbox hent hints hk hfit hQ hm
  go_enter Try.func26, Try.ntmps26
  go_wp2
  go_loopw [5, 6] (fun v i wr => ∃ (k : Nat) (ls : List RE), k ≤ L.length ∧ i = .int .i64 k ∧ OwnE wr w.heap.size v ls ∧ EnR wr (fun k => Q k ∧ k < w.heap.size) ls ((L.take k).filter (hitK cols key)) ∧ Below w.heap.size w wr) (fun _ i _ => L.length - (intOf i).toNat)
  case atStart => exact ⟨0, [], Nat.zero_le _, rfl, OwnE.nil _ _, trivial, Below.refl _ _⟩
  case round =>
    obtain ⟨k, ls, hk, rfl, hown, hen, hb⟩ := hrel
    have HO := Lib.hid hown
    have HEN := Lib.hid hen
    have HB := Lib.hid hb
    have hsz := hb.size
    have d0 := (hb.cell (p := ⟨s, 0, none⟩) hsl).trans C0.out
    have d1 := (hb.cell (p := ⟨s, 1, none⟩) hsl).trans C1.out
    clear hown hen hb
    by_cases h1 : k < L.length
    · obtain ⟨e, he⟩ : ∃ e, L[k]? = some e := ⟨_, List.getElem?_eq_getElem h1⟩
      obtain ⟨a, rv, rfl, hrow, hblt, e0, e1⟩ := (HE.out.below HB.out).get k e he
      have HROW := Lib.hid hrow
      have htk : (L.take (k + 1)).filter (hitK cols key) = (L.take k).filter (hitK cols key) ++ (if hitK cols key e = true then [e] else []) := by
        rw [List.take_add_one, he, List.filter_append]
        simp [List.filter_cons]
      have HTK := Lib.hid htk
      have hlen := HEN.out.len
      have hlen2 : ((L.take k).filter (hitK cols key)).length ≤ k := Nat.le_trans (List.length_filter_le _ _) (List.length_take_le _ _)
      have HFT := Lib.hid (HF.out e (List.mem_of_getElem? he))
      obtain ⟨hrl, Ar, cr, rfl, -, hrq⟩ := id hrow
      have hd : Below wr.heap.size wr wr.drew := Below.drew (Below.refl _ _)
      have HPK := Lib.hid (ref_pick Ar A e.1 cols e.1.length cols.length cr c wr.drew rfl rfl hcl (hrq.at.later hd) ((HI.out.keep (Below.keepQ (HB.out.trans (hd.mono hsz)) Q) (fun _ _ h => h)).at))
      have E0 := Lib.hid e0
      have E1 := Lib.hid e1
      clear he htk hrow hrq hd
      go_wp2
      go_region_held3 (fun w' => w'.cell? ⟨s, 0, none⟩ = some (.slice A cols.length c) ∧ w'.cell? ⟨s, 1, none⟩ = some (.slice (some a) L.length cp) ∧ w'.cell? (a.add (k * 2)) = some (.slice Ar e.1.length cr)) (go_keep)
        (first
        | (go_at_call 91; refine HPK.out.mono ?_; rintro y w2 ⟨kv, rfl, hown2, hb2⟩; obtain ⟨Ak, ck, rfl, hAk, hrk⟩ := hown2.row; have hk0 := (hb2.cell (p := ⟨s, 0, none⟩) (World.block_lt_of_cell? wr _ d0)).trans d0; have hk1 := (hb2.cell (p := ⟨s, 1, none⟩) (World.block_lt_of_cell? wr _ d1)).trans d1; have hk2 := (hb2.cell (p := a.add (k * 2)) hblt).trans E0.out; have hk3 := (hb2.cell (p := { block := (a.add (k * 2)).block, off := (a.add (k * 2)).off + 1 }) hblt).trans E1.out))
      have hb2' : Below wr.heap.size wr w2 := (Below.drew (Below.refl wr.heap.size wr)).trans hb2
      have hs2 := hb2'.size
      have HRK := Lib.hid hrk
      have HB2 := Lib.hid hb2'
      have hpl := pick_len e.1 cols
      clear hown2 hb2 hb2' hrk hAk
      go_wp2_with fail
      refine (ref_sameR Ak B (pickR e.1 cols).1 key _ m ck d w2 rfl HM.out (by unfold maxLen; omega) HFT.out HRK.out (HK.out.later (HB.out.trans (HB2.out.mono hsz)))).mono ?_
      rintro y w3 ⟨rfl, hb3⟩
      have n1 := (hb3.cell (p := ⟨s, 1, none⟩) (World.block_lt_of_cell? w2 _ hk1)).trans hk1
      have n2 := (hb3.cell (p := a.add (k * 2)) (World.block_lt_of_cell? w2 _ hk2)).trans hk2
      have n3 := (hb3.cell (p := { block := (a.add (k * 2)).block, off := (a.add (k * 2)).off + 1 }) (World.block_lt_of_cell? w2 _ hk3)).trans hk3
      have HB3 := Lib.hid (HB2.out.trans (hb3.mono hs2))
      have hs3 := HB3.out.size
      have HO3 := Lib.hid (HO.out.below HB3.out)
      clear hb3 hk0 hk1 hk2 hk3
      rcases Bool.eq_false_or_eq_true (hitK cols key e) with hq | hq
      · have hq2 : (cmpR (pickR e.1 cols).1 key == 0) = true := hq
        have HH := Lib.hid hq
        rw [hq2]
        clear hq hq2
        go_wp2_with (at_builtin; go_must (refine wp_append_E _ rfl (.tmp 39) (.tmp 48) rfl w.heap.size _ ls [(Value.slice Ar e.1.length cr, e.2)] rfl (HO3.out.alloc _) _ 1 _ rfl rfl (fun _ => True) (ent_lit1 w3 _ _ _ (fun _ _ => trivial)) (by simp [flatE, Value.oneCell']) (by simp; omega) (by simp; omega) ?_; intro v7 w7 hown7 hb7 _ _))
        have hb7' : Below w.heap.size wr w7 := (HB3.out.mono hsz).trans (((one_new w3 _).mono (Nat.le_trans hsz hs3)).trans hb7)
        have hkq : KeepQ (fun k => Q k ∧ k < w.heap.size) wr w7 := fun j hj _ => hb7'.block j hj.2
        go_roundw
        case rel => exact ⟨k + 1, ls ++ [(Value.slice Ar e.1.length cr, e.2)], by omega, by go_num, hown7, by rw [HTK.out, HH.out]; exact (HEN.out.keep hkq).append ⟨rfl, HROW.out.keep hkq, trivial⟩, HB.out.trans hb7'⟩
        case measure => simp [intOf]; omega
      · have hq2 : (cmpR (pickR e.1 cols).1 key == 0) = false := hq
        have HH := Lib.hid hq
        rw [hq2]
        clear hq hq2
        go_wp2
        go_roundw
        case rel => exact ⟨k + 1, ls, by omega, by go_num, HO3.out, by rw [HTK.out, HH.out]; simp only [Bool.false_eq_true, if_false, List.append_nil]; exact HEN.out.keep (Below.keepQ HB3.out _), HB.out.trans (HB3.out.mono hsz)⟩
        case measure => simp [intOf]; omega
    · obtain rfl : k = L.length := by omega
      have hall : (L.take L.length).filter (hitK cols key) = L.filter (hitK cols key) := by rw [List.take_length]
      rw [hall] at HEN
      clear hall
      go_wp2
      go_ret
      exact ⟨_, ls, rfl, HO.out, HEN.out.imp (fun _ _ h => h.1), HB.out⟩

theorem sum_take : ∀ (l : List En) (k : Nat) (e : En), l[k]? = some e → sumM (l.take (k + 1)) = sumM (l.take k) + e.2
  | [], _, _, h => by simp at h
  | a :: l, 0, e, h => by
    have : a = e := by simpa using h
    subst this
    show a.2 + sumM (l.take 0) = 0 + a.2
    simp [sumM]
  | a :: l, k + 1, e, h => by
    have ih := sum_take l k e (by simpa using h)
    show a.2 + sumM (l.take (k + 1)) = a.2 + sumM (l.take k) + e.2
    omega
theorem sum_bound9 : ∀ l : List En, (∀ e ∈ l, fewN e.2 = true) → -1073741824 * (l.length : Int) ≤ sumM l ∧ sumM l ≤ 1073741824 * (l.length : Int)
  | [], _ => by simp [sumM]
  | e :: l, h => by
    have ih := sum_bound9 l (fun f hf => h f (by simp [hf]))
    have h1 := (fewN_iff _).1 (h e (by simp))
    unfold sumM
    rw [List.length_cons]
    omega
set_option maxRecDepth 100000 in
set_option maxHeartbeats 2000000 in
theorem rx_has (Q : Nat → Prop) (s : Nat) (A : Option Addr) (c : Nat) (cols : List Int) (L : List En) (B : Option Addr) (key : List V) (m d : Nat) (w : World) (hQ : ∀ k, w.heap.size ≤ k → Q k) (hX : RefX w Q s A c cols L) (hcl : cols.length ≤ 1100000) (hm : m = key.length) (hk : RowAt w w.heap.size B key) (hfit : ∀ e ∈ L, Fit (pickR e.1 cols).1) (hL : L.length ≤ 600000) :
    Calls Try.prog 28 #[.pointer (some ⟨s, 0, none⟩), .slice B m d] w fun y w' => y = .returned (.int .i64 (sumM (L.filter (hitK cols key)))) ∧ Below w.heap.size w w' := by
  have hg : ∀ e ∈ L.filter (hitK cols key), fewN e.2 = true := fun e he => (hX.1.1.2 e (List.mem_filter.1 he).1).2.1
  have hfl : (L.filter (hitK cols key)).length ≤ 600000 := Nat.le_trans (List.length_filter_le _ _) hL
  have HF := Lib.hid (rx_find Q s A c cols L B key m d w hQ hX hcl hm hk hfit hL)
  obtain ⟨F, hFF⟩ : ∃ F, L.filter (hitK cols key) = F := ⟨_, rfl⟩
  rw [hFF] at HF hg hfl ⊢
  have HG := Lib.hid hg
  clear hX hk hfit hQ hm hg hFF hcl hL
  go_enter Try.func28, Try.ntmps28
  go_wp2_with fail
  refine HF.out.mono ?_
  rintro y w1 ⟨v, ls, rfl, hown, hen, hb1⟩
  obtain ⟨Ap, cp, rfl, -, -, hcells⟩ := hown.slice (fun _ => True) (fun _ _ => trivial)
  have hln := hen.len
  have HEQ : Hid (EntsQ w1 (fun _ => True) Ap F) := Lib.hid ⟨ls, hen.imp (fun _ _ _ => trivial), hcells⟩
  have HB1 := Lib.hid hb1
  rw [hln]
  clear hown hen hb1 hcells hln
  go_wp2
  go_loopw [5, 7] (fun v i wr => ∃ k : Nat, k ≤ F.length ∧ i = .int .i64 k ∧ v = .int .i64 (sumM (F.take k)) ∧ w1 = wr) (fun _ i _ => F.length - (intOf i).toNat)
  case atStart => exact ⟨0, Nat.zero_le _, rfl, rfl, rfl⟩
  case round =>
    obtain ⟨k, hk, rfl, rfl, rfl⟩ := hrel
    by_cases h1 : k < F.length
    · obtain ⟨e, he⟩ : ∃ e, F[k]? = some e := ⟨_, List.getElem?_eq_getElem h1⟩
      obtain ⟨a, rv, rfl, -, -, -, e1⟩ := HEQ.out.get k e he
      have hst := sum_take F k e he
      have hfe := (fewN_iff _).1 (HG.out e (List.mem_of_getElem? he))
      have hsb := sum_bound9 (F.take k) (fun f hf => HG.out f (List.mem_of_mem_take hf))
      have htl : (F.take k).length ≤ 600000 := Nat.le_trans (List.length_take_le _ _) (by omega)
      obtain ⟨t, ht⟩ : ∃ t, sumM (F.take k) = t := ⟨_, rfl⟩
      rw [ht] at hst hsb ⊢
      have HST := Lib.hid hst
      have hw1 : IntKind.i64.wrap (t + e.2) = t + e.2 := IntWalk.i64_in _ (by omega)
      clear he hst ht
      go_wp2
      go_roundw
      case rel => exact ⟨k + 1, by omega, by go_num, by rw [HST.out], by trivial⟩
      case measure => simp [intOf]; omega
    · obtain rfl : k = F.length := by omega
      rw [List.take_length]
      go_wp2
      go_ret
      exact ⟨rfl, HB1.out⟩

theorem IsRw.own {w' : World} {base : Nat} {Q : Nat → Prop} {v : Value} {xs : List V} (h : Own w' base v xs) (hl : xs.length ≤ 1100000) (hQ : ∀ k, base ≤ k → Q k) : IsRw w' Q v xs := by
  rcases h.2 with ⟨rfl, hn⟩ | ⟨g, cap, cur, rfl, hb, hg, hcap, _⟩
  · have hx : xs = [] := List.length_eq_zero_iff.1 hn
    subst hx
    exact ⟨hl, none, 0, rfl, fun i v hi => by simp at hi⟩
  · obtain ⟨A, c, he, _, hr⟩ := h.row
    injection he with h1 h2 h3
    subst h1
    refine ⟨hl, _, cap, rfl, fun i u hi => ?_⟩
    obtain ⟨a, ha, hlt, hat⟩ := hr i u hi
    injection ha with ha
    subst ha
    refine ⟨_, rfl, ?_, hat⟩
    rw [show ((⟨g, 0, none⟩ : Addr).add (i * 4)).block = g from by unfold Addr.add; split <;> rfl]
    exact hQ _ hb

theorem rw_next {h : Nat} {wr w2 w3 w7 : World} {v v' u : Value} {us : List Value} {pre : List (List V)} {x : List V} {o : Obj} (hown : OwnS wr h v us) (hb : Below wr.heap.size wr w2)
    (hen : RwsQ wr (fun k => some k ≠ v.ownBlock) us pre) (hu : IsRw w2 (fun k => wr.heap.size ≤ k) u x) (e3 : w3 = w2.alloc o) (hg : w3.grownBy w7 v.ownBlock) (hor : v'.ownBlock = v.ownBlock ∨ v'.ownBlock = some w3.heap.size) :
    RwsQ w7 (fun k => some k ≠ v'.ownBlock) (us ++ [u]) (pre ++ [x]) := by
  subst e3
  have hlt : ∀ k, v.ownBlock = some k → k < wr.heap.size := fun k hk => (World.ownsRow.lt hown k hk).2
  have hs := hb.size
  have key : ∀ k, k < w2.heap.size → some k ≠ v.ownBlock → some k ≠ v'.ownBlock := by
    intro k hk hkv
    rcases hor with h | h
    · rw [h]
      exact hkv
    · rw [h, World.size_alloc]
      intro e
      injection e with e
      omega
  have h1 : RwsQ w2 (fun k => some k ≠ v.ownBlock ∧ some k ≠ v'.ownBlock) (us ++ [u]) (pre ++ [x]) := by
    refine RwsQ.append (RwsQ.imp (fun k hk h => ⟨h, key k hk h⟩) (RwsQ.keep (Below.keepQ hb _) hen)) ⟨hu.imp (fun k hk h => ?_), trivial⟩
    have hkv : some k ≠ v.ownBlock := fun e => by have := hlt k e.symm; omega
    exact ⟨hkv, key k hk hkv⟩
  refine RwsQ.imp (fun k _ h => h.2) (RwsQ.keep ?_ h1)
  intro k hk hlt3
  rw [hg.block k (by simp; omega) (fun e => hk.1 (by rw [e])), Below.heap_alloc _ _ _ hlt3]

def picksL (cols : List Int) (L : List En) : List (List V) := L.map fun e => (pickR e.1 cols).1

set_option maxRecDepth 100000 in
set_option maxHeartbeats 2000000 in
theorem rx_keys (Q : Nat → Prop) (s : Nat) (A : Option Addr) (c : Nat) (cols : List Int) (L : List En) (w : World) (hX : RefX w Q s A c cols L) (hcl : cols.length ≤ 1100000) (hfit : ∀ e ∈ L, Fit (pickR e.1 cols).1) (hL : L.length ≤ 600000) :
    Calls Try.prog 30 #[.pointer (some ⟨s, 0, none⟩)] w fun y w' => y = .returned (.int .i64 ((sortL (picksL cols L)).length : Int)) ∧ Below w.heap.size w w' := by
  have c0 := hX.cols
  obtain ⟨⟨-, -, Lp, cp, -, -, hbox, hent⟩, hints⟩ := hX
  have c1 := hbox.cell
  have hsl := hbox.lt
  have HE := Lib.hid (hent.imp (Q' := fun k => Q k ∧ k < w.heap.size) (fun k hk h => ⟨h, hk⟩))
  have HI := Lib.hid hints
  have HF := Lib.hid hfit
  have C0 := Lib.hid c0
  have C1 := Lib.hid c1
  clear hbox hent hints hfit
  go_enter Try.func30, Try.ntmps30
  go_wp2
  go_loopw [3, 4] (fun v i wr => ∃ (k : Nat) (us : List Value), k ≤ L.length ∧ i = .int .i64 k ∧ OwnS wr w.heap.size v us ∧ RwsQ wr (fun j => some j ≠ v.ownBlock) us (picksL cols (L.take k)) ∧ Below w.heap.size w wr) (fun _ i _ => L.length - (intOf i).toNat)
  case atStart => exact ⟨0, [], Nat.zero_le _, rfl, OwnS.nil _ _, trivial, Below.refl _ _⟩
  case round =>
    obtain ⟨k, us, hk, rfl, hown, hen, hb⟩ := hrel
    have HO := Lib.hid hown
    have HEN := Lib.hid hen
    have HB := Lib.hid hb
    have hsz := hb.size
    have d0 := (hb.cell (p := ⟨s, 0, none⟩) hsl).trans C0.out
    have d1 := (hb.cell (p := ⟨s, 1, none⟩) hsl).trans C1.out
    have hul : us.length ≤ k := by
      rw [hen.len, picksL, List.length_map]
      exact List.length_take_le _ _
    clear hown hen hb
    by_cases h1 : k < L.length
    · obtain ⟨e, he⟩ : ∃ e, L[k]? = some e := ⟨_, List.getElem?_eq_getElem h1⟩
      obtain ⟨a, rv, rfl, hrow, hblt, e0, e1⟩ := (HE.out.below HB.out).get k e he
      have htk : picksL cols (L.take (k + 1)) = picksL cols (L.take k) ++ [(pickR e.1 cols).1] := by
        rw [List.take_add_one, he]
        simp [picksL]
      have HTK := Lib.hid htk
      obtain ⟨hrl, Ar, cr, rfl, -, hrq⟩ := id hrow
      have hd : Below wr.heap.size wr wr.drew := Below.drew (Below.refl _ _)
      have HPK := Lib.hid (ref_pick Ar A e.1 cols e.1.length cols.length cr c wr.drew rfl rfl hcl (hrq.at.later hd) ((HI.out.keep (Below.keepQ (HB.out.trans (hd.mono hsz)) Q) (fun _ _ h => h)).at))
      have E0 := Lib.hid e0
      clear he htk hrow hrq hd
      go_wp2
      go_region_held3 (fun w' => w'.cell? ⟨s, 0, none⟩ = some (.slice A cols.length c) ∧ w'.cell? ⟨s, 1, none⟩ = some (.slice (some a) L.length cp) ∧ w'.cell? (a.add (k * 2)) = some (.slice Ar e.1.length cr)) (go_keep)
        (first
        | (go_at_call 91; refine HPK.out.mono ?_; rintro y w2 ⟨kv, rfl, hown2, hb2⟩; have hk0 := (hb2.cell (p := ⟨s, 0, none⟩) (World.block_lt_of_cell? wr _ d0)).trans d0; have hk1 := (hb2.cell (p := ⟨s, 1, none⟩) (World.block_lt_of_cell? wr _ d1)).trans d1; have hk2 := (hb2.cell (p := a.add (k * 2)) hblt).trans E0.out))
      have hb2' : Below wr.heap.size wr w2 := (Below.drew (Below.refl wr.heap.size wr)).trans hb2
      have hs2 := hb2'.size
      have hu := IsRw.own (Q := fun k => wr.heap.size ≤ k) hown2 (Nat.le_trans (pick_len e.1 cols) hcl) (fun k hk => hk)
      have HU := Lib.hid hu
      have HB2 := Lib.hid hb2'
      have HO2 := Lib.hid (HO.out.below HB2.out)
      obtain ⟨-, A9, c9, rfl, -⟩ := id hu
      obtain ⟨np, hnp⟩ : ∃ np, (pickR e.1 cols).1.length = np := ⟨_, rfl⟩
      rw [hnp] at HU
      clear hown2 hb2 hb2' hu hk0 hk1 hk2 HPK
      rw [hnp]
      clear hnp
      go_wp2_with (at_builtin; go_must (refine wp_append_S _ rfl (.tmp 34) (.tmp 36) rfl w.heap.size _ us [Value.slice A9 np c9] rfl (HO2.out.alloc _) _ 1 _ rfl rfl (lit_S w2 _ _) (by simp [Value.oneCell']) (by simp; omega) (by simp; omega) ?_; intro v7 w7 hown7 hb7 hg7 hor7))
      have hrw7 := rw_next HO.out HB2.out HEN.out HU.out rfl hg7 hor7
      have hb7' : Below w.heap.size wr w7 := (HB2.out.mono hsz).trans (((one_new w2 _).mono (Nat.le_trans hsz hs2)).trans hb7)
      go_roundw
      case rel => exact ⟨k + 1, us ++ [Value.slice A9 np c9], by omega, by go_num, hown7, by rw [HTK.out]; exact hrw7, HB.out.trans hb7'⟩
      case measure => simp [intOf]; omega
    · obtain rfl : k = L.length := by omega
      rw [List.take_length] at HEN
      obtain ⟨A0, cg, hv, hcg, hgc⟩ := HO.out.cells
      subst hv
      have hlen := HEN.out.len
      have hs := ref_sort _ A0 cg us (picksL cols L) us.length wr hlen (by omega) (hgc.imp (fun k hk h => hk)) HEN.out (fun x hx => by
        obtain ⟨e, he, rfl⟩ := List.mem_map.1 hx
        exact HF.out e he)
      have HS := Lib.hid hs
      clear hs hgc hlen
      go_wp2_with fail
      refine HS.out.mono ?_
      rintro y w5 ⟨v, us5, rfl, hown5, hrw5, hb5⟩
      obtain ⟨A5, c5, hv5, -, -⟩ := hown5.cells
      subst hv5
      have HLN := Lib.hid hrw5.len
      have HB5 := Lib.hid (HB.out.trans (hb5.mono hsz))
      clear hown5 hrw5 hb5
      go_wp2
      go_ret
      exact ⟨by first | rfl | (rw [HLN.out]; rfl), HB5.out⟩
end Go.Proofs.Ytmdkjhnafnblkaa
