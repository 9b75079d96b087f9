/-
  IndexPlays of verdererlaw06 answers true at every list of places, every list of entries and every key, and they read afterwards as they read before.
  Condition: what is read is of bulk at most 1048576 (the narrower statement's own).
-/
import Derived.Test.YtmdkjhnafnblkaaIndexPlays0
import Derived.Test.YtmdkjhnafnblkaaLaw
import Derived.JoinedCond
namespace Go.Proofs.Ytmdkjhnafnblkaa
open Go.ChangeShapes Go.WideShapes Go.ChangeAt Go.RowKit Go.Deep Go.Maps

section
variable {H : Type} {enc : TypeId × Value → H}
theorem bulk_pos (d : DataW H) : 1 ≤ Rows.uptoBulk d := by
  cases d with
  | lit l => cases l <;> simp [Rows.uptoBulk]
  | nil => simp [Rows.uptoBulk]
  | ptr d => simp [Rows.uptoBulk]
  | slice a b => simp [Rows.uptoBulk]
  | agg a => simp [Rows.uptoBulk]
  | iface t d => simp [Rows.uptoBulk]
  | map a => simp [Rows.uptoBulk]
  | held h => simp [Rows.uptoBulk]
theorem bulk_len : ∀ l : List (DataW H), l.length ≤ Rows.uptoBulkAll l
  | [] => Nat.zero_le _
  | d :: r => by
    have ih := bulk_len r
    have h1 := bulk_pos d
    rw [Rows.uptoBulkAll, List.length_cons]
    omega
theorem cells_int9 : Try.prog.cellsOf 3 = 1 := by kernel_rfl
set_option maxRecDepth 10000 in
theorem open_ints9 {W : World} {base : Nat} {v : Value} {d : DataW H} {p : List MemPlace} {r : Reach} {b0 : Nat} (h : DataW.Trod enc Try.prog W base (fun _ => true) true 28 v d p) (hok : Value.okWide Try.prog W r b0 28 v) :
    ∃ (A : Option Addr) (c : Nat) (zs : List Int), v = .slice A zs.length c ∧ (A = none → c = 0) ∧ IntsAt W W.heap.size A zs ∧ zs.length ≤ Rows.uptoBulk d := by
  obtain ⟨a0, len, cap, rfl⟩ := okWide_slice Try.underlying28 hok
  obtain ⟨fuel, hf⟩ := h
  rcases open_slice Try.underlying28 hf with ⟨hcs, _⟩ | ⟨a, len', cap', m, k, D, Pl, hcs, _, hl, hm, hmm, hx, hel⟩
  · simp [Value.cells] at hcs
    obtain ⟨rfl, rfl, rfl⟩ := hcs
    exact ⟨none, 0, [], rfl, fun _ => rfl, fun i v hi => (by simp at hi), Nat.zero_le _⟩
  · simp [Value.cells] at hcs
    obtain ⟨rfl, rfl, rfl⟩ := hcs
    rw [cells_int9] at hel
    have hex : ∀ i, i < len → ∃ z : Int, W.cell? (a.add i) = some (.int .i64 z) ∧ (a.add i).block < W.heap.size := by
      intro i hi
      have him : i < m := by
        rw [hmm, if_pos rfl]
        omega
      obtain ⟨cs', hc, ht⟩ := hel i him
      obtain ⟨z, rfl, _⟩ := DataW.trod_int Try.underlying3 ht
      obtain ⟨_, _, hat⟩ := World.cells?_some hc
      have h0 := hat 0 (by omega)
      have e : (a.add (i * 1)).add 0 = a.add i := by simp [Addr.add]
      rw [e] at h0
      have h0' : W.cell? (a.add i) = some (.int .i64 z) := h0
      exact ⟨z, h0', World.block_lt_of_cell? W _ h0'⟩
    obtain ⟨g, hg⟩ := choose_lt hex
    have hln : ((List.range len).map g).length = len := by simp
    refine ⟨some a, cap, (List.range len).map g, by rw [hln], (fun h => by cases h), ?_, ?_⟩
    · intro i v hi
      have hil : i < len := by
        have := (List.getElem?_eq_some_iff.1 hi).1
        simpa using this
      rw [List.getElem?_map, List.getElem?_range hil] at hi
      have hv : g i = v := by simpa using hi
      subst hv
      exact ⟨a, rfl, (hg i hil).2, (hg i hil).1⟩
    · rw [hln]
      injection hx with hx1 hx2
      rw [hx1, Rows.uptoBulk]
      have := bulk_len ((List.range len).map D)
      rw [List.length_map, List.length_range] at this
      omega
end

set_option maxRecDepth 100000 in
set_option maxHeartbeats 2000000 in
theorem indexPlays_bad (w : World) (Ac : Option Addr) (cc : Nat) (cols : List Int) (hcl : cols.length ≤ 1100000) (hints : IntsAt w w.heap.size Ac cols) (hg : cols.any badC = true) (v1 v2 : Value) :
    Calls Try.prog 4 #[.slice Ac cols.length cc, v1, v2] w fun e w' => e = .returned (.bool true) ∧ Below w.heap.size w w' := by
  have H1 := Lib.hid (i_new_no Ac cols cols.length cc w rfl hcl hints hg)
  have H2 := Lib.hid (rx_new_no Ac cols cols.length cc w rfl hcl hints hg)
  clear hints hg
  go_enter Try.func4, Try.ntmps4
  go_wp2_with fail
  refine H1.out.mono ?_
  rintro e w1 ⟨rfl, rfl⟩
  go_wp2_with fail
  refine H2.out.mono ?_
  rintro e w1 ⟨rfl, rfl⟩
  go_wp2_with fail
  refine (known6 _).mono ?_
  rintro y w4 ⟨rfl, hb4⟩
  have HB4 := Lib.hid hb4
  clear hb4
  go_wp2
  go_ret
  exact ⟨rfl, HB4.out⟩
set_option maxRecDepth 100000 in
set_option maxHeartbeats 2000000 in
theorem indexPlays_long (w : World) (Ac : Option Addr) (cc : Nat) (cols : List Int) (hcl : cols.length ≤ 1100000) (hAc : Ac = none → cc = 0) (hints : IntsAt w w.heap.size Ac cols) (hg : cols.any badC = false) (A : Option Addr) (c n : Nat) (B : Option Addr) (d m : Nat) (hn : n ≤ 9223372036854775807) (hm : m ≤ 9223372036854775807) (hno : 100 < n ∨ 50 < m) :
    Calls Try.prog 4 #[.slice Ac cols.length cc, .slice A n c, .slice B m d] w fun e w' => e = .returned (.bool true) ∧ Below w.heap.size w w' := by
  have HNEW := Lib.hid (i_new Ac cols cols.length cc w rfl hAc hcl hints hg)
  have hiq : IntsQ w (fun k => k < w.heap.size) Ac cols := hints
  have HIQ := Lib.hid hiq
  have HG := Lib.hid hg
  have HNO := Lib.hid hno
  clear hints hiq hg hno
  go_enter Try.func4, Try.ntmps4
  go_wp2_with fail
  refine HNEW.out.mono ?_
  rintro e w1 ⟨hb1, x, b, rfl, hx, hb, D, A1, c1, hI⟩
  have HRX := Lib.hid (rx_new_ok Ac cols cols.length cc w1 rfl hcl (HIQ.out.keep (Below.keepQ hb1 _) (fun _ _ h => h)).at HG.out)
  have HB1 := Lib.hid (hb1.trans ((one_new w1 (.cells #[.slice Ac cols.length cc, .slice none 0 0] 45)).mono hb1.size))
  clear hb1 hI hx hb
  go_wp2_with fail
  refine HRX.out.mono ?_
  rintro e w2 ⟨rfl, rfl⟩
  by_cases h1 : 100 < n
  · go_wp2_with fail
    refine (known6 _).mono ?_
    rintro y w4 ⟨rfl, hb4⟩
    have HB4 := Lib.hid (HB1.out.trans (hb4.mono HB1.out.size))
    clear hb4
    go_wp2
    go_ret
    exact ⟨rfl, HB4.out⟩
  · have h2 : 50 < m := HNO.out.resolve_left h1
    go_wp2_with fail
    refine (known6 _).mono ?_
    rintro y w4 ⟨rfl, hb4⟩
    have HB4 := Lib.hid (HB1.out.trans (hb4.mono HB1.out.size))
    clear hb4
    go_wp2
    go_ret
    exact ⟨rfl, HB4.out⟩
theorem indexPlays_all (w : World) (Ac : Option Addr) (cc : Nat) (cols : List Int) (hcl : cols.length ≤ 1100000) (hAc : Ac = none → cc = 0) (hints : IntsAt w w.heap.size Ac cols) (A : Option Addr) (c : Nat) (es : List WE) (hl : es.length ≤ maxLen) (hW : WeakE w A es)
    (B : Option Addr) (d m : Nat) (key : List V) (hm : m = key.length) (hml : m ≤ maxLen) (hkr : RowAt w w.heap.size B key) (hkw : WideR key) :
    Calls Try.prog 4 #[.slice Ac cols.length cc, .slice A es.length c, .slice B m d] w fun e w' => e = .returned (.bool true) ∧ Below w.heap.size w w' := by
  unfold maxLen at hl hml
  rcases Bool.eq_false_or_eq_true (cols.any badC) with hg | hg
  · exact indexPlays_bad w Ac cc cols hcl hints hg _ _
  · by_cases h1 : 100 < es.length ∨ 50 < m
    · exact indexPlays_long w Ac cc cols hcl hAc hints hg A c _ B d m (by omega) (by omega) h1
    · exact indexPlays_main w Ac cc cols hcl hAc hints hg A c es _ rfl (by omega) hW B d m key hm (by omega) hkr hkw
theorem readable_P (t : TypeId) (h : t ∈ [28, 29, 30]) : Try.prog.readableRec t = true ∧ t < Try.prog.types.size := by
  simp only [List.mem_cons, List.not_mem_nil, or_false] at h
  rcases h with rfl | rfl | rfl <;> exact ⟨by kernel_rfl, of_decide_eq_true (by kernel_rfl)⟩

set_option maxRecDepth 100000 in
theorem indexPlays_lifted (os : Os) (started : os.Started) (H : Type) (enc : TypeId × Value → H) (F0 : Stop.Interp) :
    ReturnsInHanded {} Try.checked os 4 .any ((Rows.OpenSpec.upto Rows.indexPlaysSpec).pre6 enc Try.prog Try.f4 Rows.indexPlaysUptoRow.domain false) (((Rows.OpenSpec.upto Rows.indexPlaysSpec).at F0).post enc Try.prog Try.f4 false true false false) := by
  refine returnsInHanded_of_cond (C := Try.checked) (s := Rows.OpenSpec.upto Rows.indexPlaysSpec) (k := Rows.uptoSmall) rfl Try.own started (by kernel_rfl) Try.func4
    (OpenSpec.witness (enc := enc) (C := Try.checked) (s := Rows.OpenSpec.upto Rows.indexPlaysSpec) (k := Rows.uptoSmall) rfl false ⟨#[], #[.slice none 0 0, .slice none 0 0, .slice none 0 0], []⟩ 8 (by kernel_rfl) (by kernel_rfl) (by kernel_rfl)
      (x := ([.nil, .nil, .nil], [], [])) (by kernel_rfl) (by kernel_rfl) (by kernel_rfl)) ?_
  intro W base args ds gs before hval0 hW _ hcnd _
  have hval : ∀ (j : Nat) t v, Try.f4.params[j]? = some t → args[j]? = some v → Value.okWide Try.prog W .any base t v := hval0
  have hW' := hW
  obtain ⟨p, q, hA0, hV, rfl, hfz, hnd⟩ := hW
  have hA : DataW.TrodAll enc Try.prog W 0 (fun _ => true) true Try.f4.params.toList args.toList ds p := hA0
  rw [Try.params4] at hA hval
  obtain ⟨v0, v1, v2, d0, d1, d2, p0, p1, p2, rfl, rfl, rfl, h0, h1, h2⟩ := trodAll_three hA
  obtain ⟨rfl, rfl⟩ := trodVars_none hV
  obtain ⟨Ac, cc, cols, rfl, hAc, hints, hbk⟩ := open_ints9 h0 (hval 0 28 v0 rfl rfl)
  obtain ⟨A, c, es, rfl, hl, _, hWE⟩ := open_ents h1 (hval 1 29 v1 rfl rfl)
  obtain ⟨B, m, d, key, rfl, hm, hml, _, hkr, _, hkw⟩ := open_rowV h2 (hval 2 30 v2 rfl rfl)
  have hcl : cols.length ≤ 1100000 := by
    have h3 : Rows.uptoBulkAll ([d0, d1, d2] ++ []) ≤ 1048576 := of_decide_eq_true hcnd
    simp only [List.append_nil, Rows.uptoBulkAll] at h3
    omega
  refine (indexPlays_all W Ac cc cols hcl hAc hints A c es hl hWE B d m key hm hml hkr hkw).mono fun e W' ⟨he, hb⟩ => ?_
  subst he
  exact ⟨_, rfl, law_post Try.laidOut rfl hW' (by rw [Try.params4]; intro t ht; exact readable_P t (by simpa using ht)) (by kernel_rfl) Try.underlying4 rfl rfl rfl hb⟩

theorem indexPlays_holds : Rows.IndexPlaysUptoSaid :=
  OpenClaim.holds_of_cond 4 Try.f4 rfl rfl rfl rfl rfl rfl rfl ⟨rfl, rfl, rfl, rfl, rfl⟩ rfl rfl rfl rfl rfl (by kernel_rfl) Try.func4 (by kernel_rfl)
    (of_decide_eq_true (by kernel_rfl)) (by unfold Func.isWrapper; first | (rw [if_pos (by decide +kernel)]; kernel_rfl) | (rw [if_neg (by decide +kernel)]; exact ⟨rfl, rfl⟩))
    (fun os started H enc _ F0 => indexPlays_lifted os started H enc F0)
end Go.Proofs.Ytmdkjhnafnblkaa
