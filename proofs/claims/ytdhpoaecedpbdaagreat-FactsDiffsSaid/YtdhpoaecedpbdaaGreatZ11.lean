/-
  A tree of tenants in memory: a map from names to tenants, read as a list of names and those above them; New, Get, Has and canBeAbove, and those of no tree.
  No condition but that names are no longer than texts can be.
-/
import Derived.Maps.OwnSet
import Derived.Maps.OwnOps
import Derived.WalkSpells
import Derived.Test.YtdhpoaecedpbdaaGreatZ4
namespace Go.Proofs.YtdhpoaecedpbdaaGreat
open Go.RowKit Go.Maps

/-- A tenant: its name, and the name of the one above it. -/
abbrev Tn := ByteArray × ByteArray
def tnV (x : Tn) : Value := .agg #[.string x.1, .string x.2]
def noT : Value := .agg #[.string ⟨#[]⟩, .string ⟨#[]⟩]
def kt (b : ByteArray) : Lit := .string b.data.toList
theorem kt_inj {a b : ByteArray} (h : kt a = kt b) : a = b := by
  unfold kt at h
  injection h with h
  obtain ⟨⟨l⟩⟩ := a
  obtain ⟨⟨l'⟩⟩ := b
  simp only at h
  rw [h]
/-- An element of the map is read as it is. -/
def RpT (v : Value) : Option (DataW Value × List MemPlace) := some (.held v, [])
def findN (L : List Tn) (n : ByteArray) : Option Tn := L.find? fun x => decide (x.1 = n)
def orT : Option Tn → Value
  | none => noT
  | some x => tnV x
/-- The map reads as these tenants. -/
def RelT (D : DataW Value) (L : List Tn) : Prop := (∀ b, D.atKey (kt b) (.held noT) = .held (orT (findN L b))) ∧ (∀ b, Maps.has D (kt b) = (findN L b).isSome) ∧ Maps.size D = L.length ∧ L.Pairwise fun a b => a.1 ≠ b.1
theorem RelT.empty : RelT (.map []) [] := ⟨fun _ => rfl, fun _ => rfl, rfl, List.Pairwise.nil⟩
theorem RelT.put {D : DataW Value} {L L' : List Tn} {key : ByteArray} {x : Tn} (r : RelT D L) (ht : Tidy D) (hx : x.1 = key) (hp : ∀ b, findN L' b = if b = key then some x else findN L b)
    (hl : L'.length = if (findN L key).isSome = true then L.length else L.length + 1) (hn : L'.Pairwise fun a b => a.1 ≠ b.1) : RelT (D.put (kt key) (.held (tnV x))) L' := by
  obtain ⟨r1, r2, r3, _⟩ := r
  have hk : WideAt.IsKeyLit (kt key) := trivial
  refine ⟨fun b => ?_, fun b => ?_, ?_, hn⟩
  · rw [hp b]
    by_cases e : b = key
    · subst e; rw [if_pos rfl, atKey_put_same ht.isMap hk]; rfl
    · rw [if_neg e, atKey_put_other (fun e2 => e (kt_inj e2)), r1 b]
  · rw [hp b]
    by_cases e : b = key
    · subst e; rw [has_put_same ht.isMap hk]; simp
    · rw [has_put_other (fun e2 => e (kt_inj e2)), r2 b]; simp [e]
  · rw [size_put ht, r2 key, r3, hl]

theorem lawT : Keyed Tryz.prog 9 := string_keyed Tryz.underlying9
theorem zeroT (w : World) : (zeroValue 27).run Tryz.prog w = .ok noT w := by kernel_rfl
/-- A tree at block t, its map at block b. -/
def TreeB (w : World) (t b : Nat) (D : DataW Value) (L : List Tn) : Prop :=
  w.heap[t]? = some (.cells #[.map (some b)] 107 (0, 0)) ∧ w.ownsMap Tryz.prog 9 RpT b L.length D ∧ RelT D L ∧ t ≠ b ∧ t < w.heap.size ∧ b < w.heap.size
theorem ownsMapT_block {w w' : World} {b n : Nat} {D : DataW Value} (h : w.ownsMap Tryz.prog 9 RpT b n D) (he : w'.heap[b]? = w.heap[b]?) : w'.ownsMap Tryz.prog 9 RpT b n D := by
  obtain ⟨es, clock, hb, r⟩ := h
  exact ⟨es, clock, he.trans hb, r⟩
theorem ownsMapT_tight {w : World} {b n : Nat} {D : DataW Value} (h : w.ownsMap Tryz.prog 9 RpT b n D) : w.ownsMap Tryz.prog 9 RpT b (Maps.size D) D := by
  obtain ⟨es, clock, hb, F, _, rfl⟩ := h
  refine ⟨es, clock, hb, F, ?_, rfl⟩
  rw [size_eq, length_sorted]
  simp
theorem TreeB.below {w w' : World} {t b : Nat} {D : DataW Value} {L : List Tn} (h : TreeB w t b D L) (hb : Below w.heap.size w w') : TreeB w' t b D L := by
  obtain ⟨h1, h2, h3, h4, h5, h6⟩ := h
  exact ⟨(hb.block t h5).trans h1, ownsMapT_block h2 (hb.block b h6), h3, h4, Nat.lt_of_lt_of_le h5 hb.size, Nat.lt_of_lt_of_le h6 hb.size⟩
theorem new_cellT (w : World) (cs : Array Value) (t : TypeId) (i : Nat) : (w.alloc (.cells cs t)).cell? ⟨w.heap.size, i, none⟩ = cs[i]? := by
  unfold World.cell?
  rw [(Go.MapKept.heap_alloc w (.cells cs t)).1]
  rfl
theorem cell_rowT (w : World) (b : Nat) (v : Value) (t : TypeId) (h : w.heap[b]? = some (.cells #[v] t (0, 0))) : w.cell? ⟨b, 0, none⟩ = some v := by
  unfold World.cell?
  simp [h]

set_option maxHeartbeats 400000 in
theorem t_new (w : World) : Calls Tryz.prog 29 #[] w fun e w' => e = .returned (.pointer (some ⟨w.heap.size + 1, 0, none⟩)) ∧ Below w.heap.size w w' ∧ TreeB w' (w.heap.size + 1) w.heap.size (.map []) [] := by
  have hmm := @run_makeMap Tryz.prog
  go_enter Tryz.func29, Tryz.ntmps29
  go_wp2
  go_ret
  refine ⟨by simp, two_new w _ _, ?_, ?_, RelT.empty, by omega, by simp, by simp; omega⟩
  · have h := (Go.MapKept.heap_alloc (w.alloc (.map #[] 0)) (.cells #[.map (some w.heap.size)] 107)).1
    rw [World.size_alloc] at h
    exact h
  · exact (World.ownsMap_made w Tryz.prog 9 RpT).alloc _

set_option maxHeartbeats 1000000 in
theorem t_get_nil (n : ByteArray) (w : World) : Calls Tryz.prog 104 #[.pointer none, .string n] w fun e w' => e = .returned (.tuple #[noT, .int .i64 1]) ∧ Below w.heap.size w w' := by
  go_enter Tryz.func104, Tryz.ntmps104
  go_wp2
  have r0 : (w.alloc (.cells #[.string ⟨#[]⟩, .string ⟨#[]⟩] 27)).cell? ⟨w.heap.size, 0, none⟩ = some (.string ⟨#[]⟩) := new_cellT _ _ _ 0
  have r1 : (w.alloc (.cells #[.string ⟨#[]⟩, .string ⟨#[]⟩] 27)).cell? ⟨w.heap.size, 1, none⟩ = some (.string ⟨#[]⟩) := new_cellT _ _ _ 1
  exact bodyPost_ret (v := .tuple #[noT, .int .i64 1]) (by simp [results, Tryz.results104, noT, r0, r1, go_sem]) rfl ⟨rfl, one_new w _⟩
theorem RelT.at {D : DataW Value} {L : List Tn} (r : RelT D L) {n : ByteArray} {v : Value} {ps : List MemPlace} (hv : RpT v = some (D.atKey (kt n) (.held noT), ps)) : v = orT (findN L n) := by
  unfold RpT at hv
  rw [r.1 n] at hv
  injection hv with hv
  injection hv with hv _
  injection hv
set_option maxRecDepth 100000 in
set_option maxHeartbeats 1000000 in
theorem t_get (t b : Nat) (D : DataW Value) (L : List Tn) (n : ByteArray) (w : World) (hT : TreeB w t b D L) (hn : n.size ≤ maxLen) :
    Calls Tryz.prog 104 #[.pointer (some ⟨t, 0, none⟩), .string n] w fun e w' => e = .returned (.tuple #[orT (findN L n), .int .i64 (if (findN L n).isSome = true then 0 else 5)]) ∧ Below w.heap.size w w' := by
  obtain ⟨h1, h2, h3, h4, h5, h6⟩ := hT
  have c0 := cell_rowT w t _ _ h1
  have HO := Lib.hid (ownsMapT_block (w' := w.alloc (.cells #[.string ⟨#[]⟩, .string ⟨#[]⟩] 27)) h2 (Below.heap_alloc w _ b h6))
  have HR := Lib.hid h3
  have HK := Lib.hid (Go.WideMaps.keyOf_string_mk (P := Tryz.prog) Tryz.underlying9 hn)
  clear h1 h2 h3 hn
  cases hf : findN L n with
  | none =>
    have HF := Lib.hid hf
    have hh : Maps.has D (kt n) = false := by rw [HR.out.2.1 n, hf]; rfl
    clear hf
    go_enter Tryz.func104, Tryz.ntmps104
    go_wp2_with (at_lookup; refine wpList_lookup_own_ok _ rfl _ _ 104 rfl 9 27 lawT Tryz.underlying104 RpT (zeroT _) (.held noT) [] rfl b L.length D rfl HO.out _ (kt n) rfl HK.out ?_; intro v ps hv; rw [hh]; have hv2 := HR.out.at hv; rw [HF.out] at hv2; subst hv2; clear hv; unfold orT noT)
    have r0 : ((w.alloc (.cells #[.string ⟨#[]⟩, .string ⟨#[]⟩] 27)).alloc (.cells #[.string ⟨#[]⟩, .string ⟨#[]⟩] 27)).cell? ⟨w.heap.size, 0, none⟩ = some (.string ⟨#[]⟩) := ((one_new _ _).cell (p := ⟨w.heap.size, 0, none⟩) (by simp)).trans (new_cellT _ _ _ 0)
    have r1 : ((w.alloc (.cells #[.string ⟨#[]⟩, .string ⟨#[]⟩] 27)).alloc (.cells #[.string ⟨#[]⟩, .string ⟨#[]⟩] 27)).cell? ⟨w.heap.size, 1, none⟩ = some (.string ⟨#[]⟩) := ((one_new _ _).cell (p := ⟨w.heap.size, 1, none⟩) (by simp)).trans (new_cellT _ _ _ 1)
    exact bodyPost_ret (v := .tuple #[orT none, .int .i64 5]) (by simp [results, Tryz.results104, orT, noT, r0, r1, go_sem]) rfl ⟨rfl, two_new w _ _⟩
  | some x =>
    obtain ⟨xn, xp⟩ := x
    have HF := Lib.hid hf
    have hh : Maps.has D (kt n) = true := by rw [HR.out.2.1 n, hf]; rfl
    clear hf
    go_enter Tryz.func104, Tryz.ntmps104
    go_wp2_with (at_lookup; refine wpList_lookup_own_ok _ rfl _ _ 104 rfl 9 27 lawT Tryz.underlying104 RpT (zeroT _) (.held noT) [] rfl b L.length D rfl HO.out _ (kt n) rfl HK.out ?_; intro v ps hv; rw [hh]; have hv2 := HR.out.at hv; rw [HF.out] at hv2; subst hv2; clear hv; unfold orT tnV)
    have r0 : ((w.alloc (.cells #[.string xn, .string xp] 27)).alloc (.cells #[.string xn, .string xp] 27)).cell? ⟨w.heap.size, 0, none⟩ = some (.string xn) := ((one_new _ _).cell (p := ⟨w.heap.size, 0, none⟩) (by simp)).trans (new_cellT _ _ _ 0)
    have r1 : ((w.alloc (.cells #[.string xn, .string xp] 27)).alloc (.cells #[.string xn, .string xp] 27)).cell? ⟨w.heap.size, 1, none⟩ = some (.string xp) := ((one_new _ _).cell (p := ⟨w.heap.size, 1, none⟩) (by simp)).trans (new_cellT _ _ _ 1)
    exact bodyPost_ret (v := .tuple #[orT (some (xn, xp)), .int .i64 0]) (by simp [results, Tryz.results104, orT, tnV, r0, r1, go_sem]) rfl ⟨rfl, two_new w _ _⟩

set_option maxHeartbeats 1000000 in
theorem t_has_nil (n : ByteArray) (w : World) : Calls Tryz.prog 61 #[.pointer none, .string n] w fun e w' => e = .returned (.bool false) ∧ Below w.heap.size w w' := by
  go_enter Tryz.func61, Tryz.ntmps61
  go_wp2_with fail
  refine (t_get_nil n _).mono ?_
  rintro e w1 ⟨rfl, hb⟩
  have HB := Lib.hid hb
  clear hb
  unfold noT
  go_wp2
  go_ret
  exact ⟨rfl, HB.out.trans ((one_new w1 _).mono HB.out.size)⟩
set_option maxHeartbeats 1000000 in
theorem t_has (t b : Nat) (D : DataW Value) (L : List Tn) (n : ByteArray) (w : World) (hT : TreeB w t b D L) (hn : n.size ≤ maxLen) :
    Calls Tryz.prog 61 #[.pointer (some ⟨t, 0, none⟩), .string n] w fun e w' => e = .returned (.bool (findN L n).isSome) ∧ Below w.heap.size w w' := by
  have HG := Lib.hid (t_get t b D L n w hT hn)
  clear hT hn
  cases hf : findN L n with
  | none =>
    rw [hf] at HG
    have HG2 : Hid (Calls Tryz.prog 104 #[.pointer (some ⟨t, 0, none⟩), .string n] w fun e w' => e = .returned (.tuple #[noT, .int .i64 5]) ∧ Below w.heap.size w w') := HG
    clear hf HG
    go_enter Tryz.func61, Tryz.ntmps61
    go_wp2_with fail
    refine HG2.out.mono ?_
    rintro e w1 ⟨rfl, hb⟩
    have HB := Lib.hid hb
    clear hb
    unfold noT
    go_wp2
    go_ret
    exact ⟨rfl, HB.out.trans ((one_new w1 _).mono HB.out.size)⟩
  | some x =>
    rw [hf] at HG
    have HG2 : Hid (Calls Tryz.prog 104 #[.pointer (some ⟨t, 0, none⟩), .string n] w fun e w' => e = .returned (.tuple #[tnV x, .int .i64 0]) ∧ Below w.heap.size w w') := HG
    clear hf HG
    go_enter Tryz.func61, Tryz.ntmps61
    go_wp2_with fail
    refine HG2.out.mono ?_
    rintro e w1 ⟨rfl, hb⟩
    have HB := Lib.hid hb
    clear hb
    unfold tnV
    go_wp2
    go_ret
    exact ⟨rfl, HB.out.trans ((one_new w1 _).mono HB.out.size)⟩
def canT (L : List Tn) (p : ByteArray) : Bool := (p.toList == []) || (findN L p).isSome
set_option maxHeartbeats 1000000 in
theorem t_can (t b : Nat) (D : DataW Value) (L : List Tn) (n : ByteArray) (w : World) (hT : TreeB w t b D L) (hn : n.size ≤ maxLen) :
    Calls Tryz.prog 62 #[.pointer (some ⟨t, 0, none⟩), .string n] w fun e w' => e = .returned (.bool (canT L n)) ∧ Below w.heap.size w w' := by
  have HG := Lib.hid (t_has t b D L n w hT hn)
  clear hT hn
  rcases Bool.eq_false_or_eq_true (n.toList == []) with he | he
  · have hc : canT L n = true := by unfold canT; rw [he]; rfl
    rw [hc]
    clear hc
    go_enter Tryz.func62, Tryz.ntmps62
    go_wp2
    go_ret
    exact ⟨rfl, Below.refl _ _⟩
  · have hc : canT L n = (findN L n).isSome := by unfold canT; rw [he, Bool.false_or]
    rw [hc]
    clear hc
    go_enter Tryz.func62, Tryz.ntmps62
    go_wp2_with fail
    refine HG.out.mono ?_
    rintro e w1 ⟨rfl, hb⟩
    have HB := Lib.hid hb
    clear hb
    go_wp2
    go_ret
    exact ⟨rfl, HB.out⟩

set_option maxRecDepth 100000 in
set_option maxHeartbeats 1000000 in
theorem t_put (t b : Nat) (D : DataW Value) (L L' : List Tn) (n p : ByteArray) (w : World) (hT : TreeB w t b D L) (hlen : L.length ≤ 1000000) (hn : n.size ≤ maxLen) (hp : ∀ c, findN L' c = if c = n then some (n, p) else findN L c)
    (hl : L'.length = if (findN L n).isSome = true then L.length else L.length + 1) (hnd : L'.Pairwise fun a b => a.1 ≠ b.1) :
    Calls Tryz.prog 64 #[.pointer (some ⟨t, 0, none⟩), .string n, .string p] w fun e w' => e = .returned (.tuple #[]) ∧ TreeB w' t b (D.put (kt n) (.held (tnV (n, p)))) L' ∧ w.grownBy w' (some b) := by
  have HT := Lib.hid hT
  obtain ⟨h1, h2, h3, h4, h5, h6⟩ := hT
  have c0 := cell_rowT w t _ _ h1
  have HO := Lib.hid h2
  have HK := Lib.hid (Go.WideMaps.keyOf_string_mk (P := Tryz.prog) Tryz.underlying9 hn)
  have HP := Lib.hid hp
  have HL := Lib.hid hl
  have HND := Lib.hid hnd
  have qn := fun W : World => run_eql_map_nil (P := Tryz.prog) W 104 9 27 (some b) Tryz.underlying104
  clear h1 h2 h3 hn hp hl hnd
  go_enter Tryz.func64, Tryz.ntmps64
  go_wp2_with (at_mapUpdate; refine wpList_mapUpdate_own _ rfl _ _ _ 104 rfl 9 27 lawT Tryz.underlying104 RpT b L.length D rfl HO.out (by unfold maxLen; omega) _ _ (kt n) rfl rfl HK.out (.held (tnV (n, p))) [] rfl ?_; intro w5 hown5 hgrow5)
  go_end0
  have hr := RelT.put (x := (n, p)) HT.out.2.2.1 (HO.out.tidy lawT) rfl HP.out HL.out HND.out
  refine ⟨rfl, ⟨?_, ?_, hr, h4, Nat.lt_of_lt_of_le h5 hgrow5.size, Nat.lt_of_lt_of_le h6 hgrow5.size⟩, hgrow5⟩
  · exact (hgrow5.block t h5 (fun e => h4 (by injection e))).trans HT.out.1
  · rw [← hr.2.2.1]
    exact ownsMapT_tight hown5
end Go.Proofs.YtdhpoaecedpbdaaGreat
