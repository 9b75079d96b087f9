/-
  Len of package index: how many rows all shelves have together, whatever order the map tells them in.
  Condition: no more than a thousand million rows.
-/
import Derived.Test.YtmdkjhnafnblkaaIxo
import Derived.Maps.RangeWalk
import Derived.Outline
namespace Go.Proofs.Ytmdkjhnafnblkaa
open Go.RowKit Go.Maps

theorem keyOf_inv {key : Value} {k : Lit} (h : keyOf Try.prog 9 key = some k) : ∃ x : ByteArray, key = .string x ∧ k = kl x := by
  rw [keyOf_string Try.underlying9] at h
  unfold mapKey at h
  rw [Try.underlying9] at h
  cases key with
  | string s =>
    simp only at h
    split at h
    · injection h with h
      exact ⟨s, rfl, h.symm⟩
    · cases h
  | _ => simp at h

/-- How many rows the shelves have that have come. -/
def sumL (left : Lit → Bool) (S : List Sh) : Nat := (S.map fun h => if left (kl h.key) then 0 else h.l.length).sum
def totL (S : List Sh) : Nat := (S.map fun h => h.l.length).sum
theorem sumL_all (left : Lit → Bool) (S : List Sh) (h : ∀ i ∈ S, left (kl i.key) = true) : sumL left S = 0 := by
  unfold sumL
  induction S with
  | nil => rfl
  | cons a S ih =>
    rw [List.map_cons, List.sum_cons, ih (fun i hi => h i (by simp [hi])), h a (by simp)]
    rfl
theorem sumL_none (left : Lit → Bool) (S : List Sh) (h : ∀ k, left k = false) : sumL left S = totL S := by
  unfold sumL totL
  congr 1
  refine List.map_congr_left ?_
  intro i _
  rw [h]
  rfl
theorem sumL_le (left : Lit → Bool) (S : List Sh) : sumL left S ≤ totL S := by
  unfold sumL totL
  induction S with
  | nil => simp
  | cons a S ih =>
    rw [List.map_cons, List.map_cons, List.sum_cons, List.sum_cons]
    have : (if left (kl a.key) = true then 0 else a.l.length) ≤ a.l.length := by split <;> omega
    omega
theorem kl_same {a b : ByteArray} (h : a ≠ b) : (kl a).sameKey (kl b) = false := sameKey_ne (fun e => h (kl_inj e))
theorem kl_self (a : ByteArray) : (kl a).sameKey (kl a) = true := by simp [kl, Lit.sameKey]
theorem sumL_other (left : Lit → Bool) (x : ByteArray) : ∀ (S : List Sh), (∀ i ∈ S, i.key ≠ x) → sumL (fun z => left z && !z.sameKey (kl x)) S = sumL left S
  | [], _ => rfl
  | a :: S, h => by
    have ih := sumL_other left x S (fun i hi => h i (by simp [hi]))
    unfold sumL at ih ⊢
    rw [List.map_cons, List.map_cons, List.sum_cons, List.sum_cons, ih]
    dsimp only
    simp only [kl_same (h a (by simp))]
    simp
theorem sumL_step (left : Lit → Bool) (h0 : Sh) : ∀ (S : List Sh), S.Pairwise (fun a b => a.key ≠ b.key) → h0 ∈ S → left (kl h0.key) = true → sumL (fun z => left z && !z.sameKey (kl h0.key)) S = sumL left S + h0.l.length
  | [], _, h, _ => by cases h
  | a :: S, hn, h, hl => by
    obtain ⟨h1, h2⟩ := List.pairwise_cons.1 hn
    rcases List.mem_cons.1 h with e | h
    · subst e
      have ih := sumL_other left h0.key S (fun i hi => (h1 i hi).symm)
      unfold sumL at ih ⊢
      rw [List.map_cons, List.map_cons, List.sum_cons, List.sum_cons, ih]
      dsimp only
      simp only [hl, kl_self]
      simp
      omega
    · have ih := sumL_step left h0 S h2 h hl
      unfold sumL at ih ⊢
      rw [List.map_cons, List.map_cons, List.sum_cons, List.sum_cons, ih]
      dsimp only
      simp only [kl_same (h1 h0 h)]
      simp
      omega
theorem find_some {S : List Sh} {x : ByteArray} (h : (findK S x).isSome = true) : ∃ i, findK S x = some i ∧ i ∈ S ∧ i.key = x := by
  cases hf : findK S x with
  | none => rw [hf] at h; cases h
  | some i => exact ⟨i, rfl, (find_mem hf).1, (find_mem hf).2⟩
theorem find_self {S : List Sh} {i : Sh} (h : i ∈ S) : (findK S i.key).isSome = true := by
  unfold findK
  rw [List.find?_isSome]
  exact ⟨i, h, by simp⟩

set_option maxRecDepth 100000 in
set_option maxHeartbeats 4000000 in
theorem i_len (x b : Nat) (D : DataW Value) (A : Option Addr) (c : Nat) (cols : List Int) (S : List Sh) (w : World) (hI : IdxB w x b D A c cols S) (ht : totL S ≤ 1000000000) :
    Calls Try.prog 23 #[.pointer (some ⟨x, 0, none⟩)] w fun e w' => e = .returned (.int .i64 (totL S : Int)) ∧ Below w.heap.size w w' := by
  have HI := Lib.hid hI
  obtain ⟨i1, -, i3, i4, -, i6, i7⟩ := hI
  have c1 : w.cell? ⟨x, 1, none⟩ = some (.map (some b)) := cell_of_row w x 1 _ _ _ i1
  have hxl : x < w.heap.size := i6 x (by simp [mus])
  have I3 := Lib.hid i3
  have I4 := Lib.hid i4
  have I7 := Lib.hid i7
  obtain ⟨T, hT⟩ : ∃ T, totL S = T := ⟨_, rfl⟩
  rw [hT] at ht ⊢
  have HT := Lib.hid hT
  clear i1 i3 i4 i6 i7 hT
  go_enter Try.func23, Try.ntmps23
  go_wp2_with (at_range; refine wpList_range_own _ rfl _ 127 rfl 9 134 lawK Try.underlying127 Rp b S.length D rfl I3.out ?_; intro w0 hrg0 hg0 hs0)
  go_frame
  have HRG0 := Lib.hid hrg0
  have HB0 : Hid (Below w.heap.size w w0) := Lib.hid ((Below.refl _ _).grown hg0 (Nat.le_refl _) (fun j hj => by cases hj))
  clear hrg0 hg0
  go_loopw [3] (fun v wr => ∃ (left : Lit → Bool) (cnt : Nat), wr.ranges Try.prog 9 Rp b w.heap.size S.length D left cnt ∧ v = .int .i64 (sumL left S : Int) ∧ (∀ k, left k = true → Maps.has D k = true) ∧ Below w.heap.size w wr) (fun _ wr => wr.rangeLeft b w.heap.size)
  case atStart => exact ⟨_, _, HRG0.out, by rw [sumL_all _ _ (fun i hi => by rw [I4.out.2.1]; exact find_self hi)]; rfl, fun _ h => h, HB0.out⟩
  case round =>
    obtain ⟨left, cnt, hrg, rfl, hlf, hb⟩ := hrel
    have HRG := Lib.hid hrg
    have HLF := Lib.hid hlf
    have HB := Lib.hid hb
    have hsz := hb.size
    clear hrg hlf hb
    go_wp2_with (at_next; refine wpList_next_ranges _ rfl _ rfl 9 lawK Rp Value.string (fun v : Value => v) (fun key k h => by obtain ⟨z, rfl, _⟩ := keyOf_inv h; exact ⟨z, rfl⟩) (fun v _ _ => ⟨v, rfl⟩) b w.heap.size S.length D _ _ rfl HRG.out ?_ ?_)
    · intro hc0 hl0
      have hz : sumL left S = T := by rw [sumL_none left S hl0, HT.out]
      rw [hz]
      clear hc0 hl0 hz
      go_wp2
      go_ret
      exact ⟨rfl, HB.out⟩
    · intro z v k y1 y2 w1 cnt1 hkey hlk hv hat hrg1 hlt hg1 hs1 hen
      obtain ⟨z', hz', rfl⟩ := keyOf_inv hkey
      injection hz' with hz'
      subst hz'
      have hhas := HLF.out _ hlk
      rw [I4.out.2.1] at hhas
      obtain ⟨i, hf, him, hik⟩ := find_some hhas
      have hat1 := hat (.held (.pointer none))
      rw [I4.out.1, hf] at hat1
      unfold Rp at hv
      injection hv with hv
      injection hv with hv hv2
      subst hv
      subst hv2
      injection hat1 with hat1
      obtain ⟨key, s, g, tog, l⟩ := i
      dsimp only at hik
      subst hik
      have hv3 : v = .pointer (some ⟨s, 0, none⟩) := hat1.symm
      subst hv3
      have hB1 : Below w.heap.size w w1 := HB.out.grown hg1 (Nat.le_trans hsz (Nat.le_refl _)) (fun j hj => by cases hj; exact Nat.le_refl _)
      have HB1 := Lib.hid hB1
      have HRG1 := Lib.hid hrg1
      have HST := Lib.hid (sumL_step left ⟨key, s, g, tog, l⟩ S I4.out.2.2.2 him hlk)
      have HLF1 : Hid (∀ k, (left k && !k.sameKey (kl key)) = true → Maps.has D k = true) := Lib.hid (fun k hk => HLF.out k (by simp only [Bool.and_eq_true] at hk; exact hk.1))
      obtain ⟨hsh, hbag⟩ := I7.out _ him
      have s0 := cell_lift9 (cell_of_row w s 0 _ _ _ hsh) hB1
      have HBAG := Lib.hid (hbag.below hB1)
      have hle := sumL_le (fun z => left z && !z.sameKey (kl key)) S
      rw [HT.out] at hle
      have hle2 : sumL left S + l.length ≤ T := by rw [HST.out] at hle; exact hle
      have s1 : w1.cell? ⟨s, 0, none⟩ = some (.pointer (some ⟨g, 0, none⟩)) := s0
      have HLT := Lib.hid hlt
      clear hkey hlk hat hhas hf him hat1 hsh hbag hB1 hg1 hs1 hrg1 hle s0 hlt
      go_wp2_with fail
      refine (b_len _ (some ⟨g, 0, none⟩) l w1 (.inr ⟨g, rfl, HBAG.out⟩)).mono ?_
      rintro e w' ⟨rfl, rfl⟩
      go_wp2
      go_roundw
      case rel => exact ⟨_, cnt1, HRG1.out, by rw [HST.out]; go_num, HLF1.out, HB1.out⟩
      case measure => rw [HRG1.out.left_eq, HRG.out.left_eq]; exact HLT.out
end Go.Proofs.Ytmdkjhnafnblkaa
