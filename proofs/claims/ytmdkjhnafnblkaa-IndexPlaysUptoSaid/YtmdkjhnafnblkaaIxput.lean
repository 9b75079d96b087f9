/-
  put and Add of package index at any shelves: what becomes of the shelves, and that nothing else that was there is changed.
  Condition: no more than a million shelves, rows of no more than one million one hundred thousand cells.
-/
import Derived.Test.YtmdkjhnafnblkaaIxpure
namespace Go.Proofs.Ytmdkjhnafnblkaa
open Go.RowKit Go.Maps

/-- Shelves as they can be: each has a row, not too many, not too often. -/
def FineS (S : List Sh) : Prop := S.length ≤ 1000000 ∧ ∀ h ∈ S, h.l ≠ [] ∧ h.l.length ≤ 800000 ∧ -4000000000000000000 ≤ h.tog ∧ h.tog ≤ 4000000000000000000
/-- Behind put: the shelves are others, and only blocks of theirs were written. -/
def Puts (x b : Nat) (A : Option Addr) (c : Nat) (cols : List Int) (S : List Sh) (key : ByteArray) (xs : List V) (k : Int) (w : World) (e : Ending) (w' : World) : Prop :=
  e = .returned (.int .i64 (addL xs k (listK S key)).2) ∧ OnlyM (mus x b S) w w' ∧ ∃ D' S', IdxB w' x b D' A c cols S' ∧ (∀ j ∈ mus x b S', j ∈ mus x b S ∨ w.heap.size ≤ j) ∧ StepS S key k (addL xs k (listK S key)) S'
theorem contK_snoc (S : List Sh) (h : Sh) (hf : findK S h.key = none) (y : ByteArray) : contK (S ++ [h]) y = if y = h.key then some (h.tog, h.l) else contK S y := by
  unfold contK findK at *
  rw [List.find?_append]
  by_cases e : y = h.key
  · subst e
    rw [hf, if_pos rfl]
    simp
  · rw [if_neg e]
    cases hk : S.find? fun i => decide (i.key = y) with
    | none => simp [Ne.symm e]
    | some i => rfl
theorem contK_del (S : List Sh) (key y : ByteArray) : contK (delS S key) y = if y = key then none else contK S y := by
  unfold contK
  rw [delS_find]
  by_cases e : y = key
  · rw [if_pos e, if_pos e]; rfl
  · rw [if_neg e, if_neg e]
theorem contK_upd {S : List Sh} {h h' : Sh} (hnd : (S.flatMap fun h => [h.s, h.g]).Nodup) (hf : findK S h.key = some h) (e1 : h'.key = h.key) (e2 : h'.s = h.s) (y : ByteArray) : contK (updS S h') y = if y = h.key then some (h'.tog, h'.l) else contK S y := by
  obtain ⟨hm, _⟩ := find_mem hf
  have hsame : ∀ i ∈ S, i.s = h'.s → i = h := fun i hi he => (sh_apart S hnd h hm i hi).resolve_right (fun hh => hh.1 (he.trans e2))
  have hfind : findK (updS S h') y = (findK S y).map fun i => if i.s = h'.s then h' else i := by
    unfold findK updS
    rw [List.find?_map]
    congr 1
    refine find_congr9 ?_
    intro i hi
    have hk : (if i.s = h'.s then h' else i).key = i.key := by
      by_cases e : i.s = h'.s
      · rw [if_pos e, hsame i hi e, e1]
      · rw [if_neg e]
    simp only [Function.comp, hk]
  unfold contK
  rw [hfind]
  by_cases e : y = h.key
  · rw [if_pos e, e, hf]
    simp [e2]
  · rw [if_neg e]
    cases hk : findK S y with
    | none => rfl
    | some i =>
      have hi := find_mem hk
      have : i.s ≠ h'.s := fun he => e (by rw [← hi.2, hsame i hi.1 he])
      simp [this]

theorem i_put_all (x b : Nat) (D : DataW Value) (A : Option Addr) (c : Nat) (cols : List Int) (S : List Sh) (key : ByteArray) (R : Nat → Prop) (v : Value) (xs : List V) (k : Int) (w : World) (hks : key.size ≤ maxLen) (hI : IdxB w x b D A c cols S) (hx : IsRow w R v xs) (hk : -9223372036854775808 ≤ k ∧ k ≤ 9223372036854775807) (hF : FineS S) :
    Calls Try.prog 89 #[.pointer (some ⟨x, 0, none⟩), .string key, v, .int .i64 k] w (Puts x b A c cols S key xs k w) := by
  have hmus := hI.2.2.2.2.2.1
  obtain ⟨_, _, hnd⟩ := mus_x hI.2.2.2.2.1
  cases hf : findK S key with
  | none =>
    have hl : listK S key = [] := by unfold listK contK; rw [hf]; rfl
    have ht : togK S key = 0 := by unfold togK contK; rw [hf]; rfl
    have hc : contK S key = none := by unfold contK; rw [hf]; rfl
    unfold Puts
    rw [hl]
    rcases addL_err xs k [] with ha | ha | ha
    · rw [ha]
      refine (i_put_no x b D A c cols S key R v xs k 2 w hks hI hf hx hk ha (.inl rfl)).mono ?_
      rintro e w' ⟨rfl, hb⟩
      exact ⟨rfl, ⟨hb.mono (Nat.zero_le _), fun j hj _ => hb.block j hj⟩, D, S, hI.below hb, fun j hj => .inl hj, fun y => by rw [if_neg (by simp)]⟩
    · rw [ha]
      refine (i_put_no x b D A c cols S key R v xs k 10 w hks hI hf hx hk ha (.inr rfl)).mono ?_
      rintro e w' ⟨rfl, hb⟩
      exact ⟨rfl, ⟨hb.mono (Nat.zero_le _), fun j hj _ => hb.block j hj⟩, D, S, hI.below hb, fun j hj => .inl hj, fun y => by rw [if_neg (by simp)]⟩
    · obtain ⟨l', hl'⟩ : ∃ l', addL xs k [] = (l', 0) := ⟨_, Prod.ext rfl ha⟩
      rw [hl']
      by_cases hne : l' = []
      · subst hne
        refine (i_put_zero x b D A c cols S key R v xs k w hks hI hf hx hl').mono ?_
        rintro e w' ⟨rfl, om, D', hI'⟩
        refine ⟨rfl, om, D', S, hI', fun j hj => .inl hj, fun y => ?_⟩
        by_cases e : y = key
        · rw [if_pos ⟨e, rfl⟩, if_pos rfl, e, hc]
        · rw [if_neg (fun h => e h.1)]
      · refine (i_put_new x b D A c cols S key R v xs k l' w hks hI hf hx hl' hne hF.1).mono ?_
        rintro e w' ⟨rfl, om, D', s, g, hs, hg, hI'⟩
        refine ⟨rfl, om, D', _, hI', fun j hj => ?_, fun y => ?_⟩
        · rw [mus_snoc, List.mem_append] at hj
          rcases hj with hj | hj
          · exact .inl hj
          · simp at hj
            exact .inr (by omega)
        · rw [contK_snoc S ⟨key, s, g, k, l'⟩ hf y]
          by_cases e : y = key
          · rw [if_pos e, if_pos ⟨e, rfl⟩, if_neg hne, ht]
            simp
          · rw [if_neg e, if_neg (fun h => e h.1)]
  | some h =>
    obtain ⟨hm, hkey⟩ := find_mem hf
    obtain ⟨f1, f2, f3, f4⟩ := hF.2 h hm
    obtain ⟨key', s, g, tog, l⟩ := h
    dsimp only at hkey f1 f2 f3 f4
    subst hkey
    have hl : listK S key' = l := by unfold listK contK; rw [hf]; rfl
    have ht : togK S key' = tog := by unfold togK contK; rw [hf]; rfl
    unfold Puts
    rw [hl]
    rcases addL_err xs k l with ha | ha | ha
    · rw [ha]
      refine (i_put_noh x b D A c cols S key' s g tog l R v xs k 2 w hks hI hf hx hk ha (.inl rfl) f2).mono ?_
      rintro e w' ⟨rfl, om, hI'⟩
      exact ⟨rfl, om, D, S, hI', fun j hj => .inl hj, fun y => by rw [if_neg (by simp)]⟩
    · rw [ha]
      refine (i_put_noh x b D A c cols S key' s g tog l R v xs k 10 w hks hI hf hx hk ha (.inr rfl) f2).mono ?_
      rintro e w' ⟨rfl, om, hI'⟩
      exact ⟨rfl, om, D, S, hI', fun j hj => .inl hj, fun y => by rw [if_neg (by simp)]⟩
    · obtain ⟨l', hl'⟩ : ∃ l', addL xs k l = (l', 0) := ⟨_, Prod.ext rfl ha⟩
      rw [hl']
      by_cases hne : l' = []
      · subst hne
        refine (i_put_del x b D A c cols S key' s g tog l R v xs k w hks hI hf hx hl' f2 f3 f4).mono ?_
        rintro e w' ⟨rfl, om, D', hI'⟩
        refine ⟨rfl, om, D', _, hI', fun j hj => .inl ((mus_sub x b S key').subset hj), fun y => ?_⟩
        rw [contK_del]
        by_cases e : y = key'
        · rw [if_pos e, if_pos ⟨e, rfl⟩, if_pos rfl]
        · rw [if_neg e, if_neg (fun h => e h.1)]
      · refine (i_put_hit x b D A c cols S key' s g tog l R v xs k l' w hks hI hf hx hl' hne hF.1 f2 f3 f4).mono ?_
        rintro e w' ⟨rfl, om, D', hI'⟩
        have hI2 := hI'
        refine ⟨rfl, om, D', _, hI', fun j hj => .inl ?_, fun y => ?_⟩
        · have hsame : ∀ i ∈ S, i.s = s → i = ⟨key', s, g, tog, l⟩ := fun i hi he => (sh_apart S hnd _ hm i hi).resolve_right (fun hh => hh.1 he)
          unfold mus updS at hj
          rw [List.mem_cons, List.mem_cons, List.mem_flatMap] at hj
          rcases hj with rfl | rfl | ⟨i, hi, hj⟩
          · simp [mus]
          · simp [mus]
          · obtain ⟨i0, hi0, rfl⟩ := List.mem_map.1 hi
            by_cases e : i0.s = s
            · simp only [e, if_true] at hj
              simp at hj
              rcases hj with rfl | rfl
              · exact (mus_mem hm).1
              · exact (mus_mem hm).2
            · simp only [e, if_false] at hj
              simp at hj
              rcases hj with rfl | rfl
              · exact (mus_mem hi0).1
              · exact (mus_mem hi0).2
        · rw [contK_upd (h := ⟨key', s, g, tog, l⟩) (h' := ⟨key', s, g, tog + k, l'⟩) hnd hf rfl rfl y]
          by_cases e : y = key'
          · rw [if_pos e, if_pos ⟨e, rfl⟩, if_neg hne, ht]
          · rw [if_neg e, if_neg (fun h => e h.1)]

set_option maxRecDepth 100000 in
set_option maxHeartbeats 1000000 in
/-- Add where Pick refuses. -/
theorem i_add_no (x b : Nat) (D : DataW Value) (A : Option Addr) (c : Nat) (cols : List Int) (S : List Sh) (R : Nat → Prop) (v : Value) (xs : List V) (k : Int) (w : World) (hI : IdxB w x b D A c cols S) (hcl : cols.length ≤ 1100000) (hx : IsRow w R v xs) (hp : pickR xs cols = ([], 2)) :
    Calls Try.prog 21 #[.pointer (some ⟨x, 0, none⟩), v, .int .i64 k] w fun e w' => e = .returned (.int .i64 2) ∧ Below w.heap.size w w' := by
  obtain ⟨i1, i2, -, -, -, i6, -⟩ := hI
  have hxl : x < w.heap.size := i6 x (by simp [mus])
  have c0 : w.cell? ⟨x, 0, none⟩ = some (.slice A cols.length c) := cell_of_row w x 0 _ _ _ i1
  obtain ⟨-, Av, cv, hv, -, hr⟩ := id hx
  have HPK := Lib.hid (row_pick Av A xs cols xs.length cols.length cv c w rfl rfl (by omega) hr.at i2.at)
  rw [hp] at HPK
  subst hv
  clear i1 i2 i6 hx hr hp
  go_enter Try.func21, Try.ntmps21
  go_wp2_with fail
  refine HPK.out.mono ?_
  rintro e w1 ⟨kv, rfl, hown, hb1⟩
  dsimp only at hown
  obtain ⟨Ak, ck, rfl, _, _⟩ := hown.row
  have HB1 := Lib.hid hb1
  clear hown hb1
  dsimp only
  go_wp2
  go_ret
  exact ⟨rfl, HB1.out⟩

/-- Add where Pick gives the key. -/
theorem i_add_all (x b : Nat) (D : DataW Value) (A : Option Addr) (c : Nat) (cols : List Int) (S : List Sh) (R : Nat → Prop) (v : Value) (xs ks : List V) (k : Int) (w : World) (hI : IdxB w x b D A c cols S) (hcl : cols.length ≤ 1100000) (hx : IsRow w R v xs) (hp : pickR xs cols = (ks, 0)) (hkl : ks.length ≤ 1100000) (hw : WideR ks) (hk : -9223372036854775808 ≤ k ∧ k ≤ 9223372036854775807) (hF : FineS S) :
    Calls Try.prog 21 #[.pointer (some ⟨x, 0, none⟩), v, .int .i64 k] w (Puts x b A c cols S (markB ks) xs k w) := by
  refine (i_add x b D A c cols S R v xs ks k w (fun W e w' => Puts x b A c cols S (markB ks) xs k W e w') hI hcl hx hp hkl hw ?_).mono ?_
  · intro W hW
    refine (i_put_all x b D A c cols S (markB ks) R v xs k W (mark_size ks hkl) (hI.below hW) (hx.below hW) hk hF).mono ?_
    intro e w' h
    exact ⟨_, h.1, h⟩
  · rintro e w' ⟨W, hW, rfl, om, D', S', hI', hj, hs⟩
    have hz := hW.size
    refine ⟨rfl, ⟨(hW.mono (Nat.zero_le _)).trans om.1, fun j hjl hn => (om.2 j (by omega) hn).trans (hW.block j hjl)⟩, D', S', hI', fun j hjm => ?_, hs⟩
    rcases hj j hjm with h | h
    · exact .inl h
    · exact .inr (by omega)
end Go.Proofs.Ytmdkjhnafnblkaa
