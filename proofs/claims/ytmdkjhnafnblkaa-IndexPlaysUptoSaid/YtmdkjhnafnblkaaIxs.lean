/-
  An index in memory: its places, a map from the bytes of keys to shelves, each with a bag and how often its rows are there together.
  No condition.
-/
import Derived.Test.YtmdkjhnafnblkaaIxm
import Derived.Test.YtmdkjhnafnblkaaBrows
import Derived.Maps.OwnSet
import Derived.Maps.OwnOps
namespace Go.Proofs.Ytmdkjhnafnblkaa
open Go.RowKit Go.Maps

/-- A shelf: its key's bytes, its block, its bag's block, how often its rows are there together, its rows. -/
structure Sh where
  key : ByteArray
  s : Nat
  g : Nat
  tog : Int
  l : List En
def kl (b : ByteArray) : Lit := .string b.data.toList
theorem kl_inj {a b : ByteArray} (h : kl a = kl b) : a = b := by
  unfold kl at h
  injection h with h
  obtain ⟨⟨l⟩⟩ := a
  obtain ⟨⟨l'⟩⟩ := b
  simp only at h
  rw [h]
/-- An element of the map is read as it is. -/
def Rp (v : Value) : Option (DataW Value × List MemPlace) := some (.held v, [])
def shP (h : Sh) : Value := .pointer (some ⟨h.s, 0, none⟩)
def findK (S : List Sh) (b : ByteArray) : Option Sh := S.find? fun h => decide (h.key = b)
def ptrOf : Option Sh → Value
  | none => .pointer none
  | some h => shP h
/-- The map reads as these shelves. -/
def RelD (D : DataW Value) (S : List Sh) : Prop := (∀ b, D.atKey (kl b) (.held (.pointer none)) = .held (ptrOf (findK S b))) ∧ (∀ b, Maps.has D (kl b) = (findK S b).isSome) ∧ Maps.size D = S.length ∧ S.Pairwise fun a b => a.key ≠ b.key
theorem RelD.empty : RelD (.map []) [] := ⟨fun _ => rfl, fun _ => rfl, rfl, List.Pairwise.nil⟩
theorem RelD.put {D : DataW Value} {S S' : List Sh} {key : ByteArray} {p : Value} (r : RelD D S) (ht : Tidy D) (hp : ∀ b, ptrOf (findK S' b) = if b = key then p else ptrOf (findK S b)) (hs : ∀ b, (findK S' b).isSome = (decide (b = key) || (findK S b).isSome))
    (hl : S'.length = if (findK S key).isSome = true then S.length else S.length + 1) (hn : S'.Pairwise fun a b => a.key ≠ b.key) : RelD (D.put (kl key) (.held p)) S' := by
  obtain ⟨r1, r2, r3, _⟩ := r
  have hk : WideAt.IsKeyLit (kl key) := trivial
  refine ⟨fun b => ?_, fun b => ?_, ?_, hn⟩
  · rw [hp b]
    by_cases e : b = key
    · subst e; rw [if_pos rfl, atKey_put_same ht.isMap hk]
    · rw [if_neg e, atKey_put_other (fun e2 => e (kl_inj e2)), r1 b]
  · rw [hs b]
    by_cases e : b = key
    · subst e; rw [has_put_same ht.isMap hk]; simp
    · rw [has_put_other (fun e2 => e (kl_inj e2)), r2 b]; simp [e]
  · rw [size_put ht, r2 key, r3, hl]

def mus (x b : Nat) (S : List Sh) : List Nat := x :: b :: S.flatMap fun h => [h.s, h.g]
def Qm (x b : Nat) (S : List Sh) (k : Nat) : Prop := k ∉ mus x b S
def IntsQ (w : World) (Q : Nat → Prop) (A : Option Addr) (zs : List Int) : Prop := ∀ (i : Nat) (z : Int), zs[i]? = some z → ∃ a : Addr, A = some a ∧ Q (a.add i).block ∧ w.cell? (a.add i) = some (.int .i64 z)
theorem IntsQ.at {w : World} {Q : Nat → Prop} {A : Option Addr} {zs : List Int} (h : IntsQ w Q A zs) : IntsAt w w.heap.size A zs := by
  intro i z hi
  obtain ⟨a, ha, _, hc⟩ := h i z hi
  exact ⟨a, ha, World.block_lt_of_cell? w _ hc, hc⟩
theorem IntsQ.keep {w w' : World} {Q Q' : Nat → Prop} {A : Option Addr} {zs : List Int} (h : IntsQ w Q A zs) (hk : KeepQ Q w w') (hq : ∀ k, k < w.heap.size → Q k → Q' k) : IntsQ w' Q' A zs := by
  intro i z hi
  obtain ⟨a, ha, hb, hc⟩ := h i z hi
  have hlt := World.block_lt_of_cell? w _ hc
  exact ⟨a, ha, hq _ hlt hb, (World.cell?_of_block (w := w) (hk _ hb hlt)).trans hc⟩
def ShelfAt (w : World) (h : Sh) : Prop := w.heap[h.s]? = some (.cells #[.pointer (some ⟨h.g, 0, none⟩), .int .i64 h.tog] 137 (0, 0))
def IdxB (w : World) (x b : Nat) (D : DataW Value) (A : Option Addr) (c : Nat) (cols : List Int) (S : List Sh) : Prop :=
  w.heap[x]? = some (.cells #[.slice A cols.length c, .map (some b)] 129 (0, 0)) ∧ IntsQ w (Qm x b S) A cols ∧ w.ownsMap Try.prog 9 Rp b S.length D ∧ RelD D S ∧ (mus x b S).Nodup ∧ (∀ k ∈ mus x b S, k < w.heap.size) ∧
    ∀ h ∈ S, ShelfAt w h ∧ BagL w (Qm x b S) h.g h.l
/-- An index by the places cols with the shelves S lies at block x. -/
def IdxAt (w : World) (x : Nat) (cols : List Int) (S : List Sh) : Prop := ∃ b D A c, IdxB w x b D A c cols S

theorem ownsMap_block {w w' : World} {b n : Nat} {D : DataW Value} (h : w.ownsMap Try.prog 9 Rp b n D) (he : w'.heap[b]? = w.heap[b]?) : w'.ownsMap Try.prog 9 Rp b n D := by
  obtain ⟨es, clock, hb, r⟩ := h
  exact ⟨es, clock, he.trans hb, r⟩
theorem ownsMap_tight {w : World} {b n : Nat} {D : DataW Value} (h : w.ownsMap Try.prog 9 Rp b n D) : w.ownsMap Try.prog 9 Rp b (Maps.size D) D := by
  obtain ⟨es, clock, hb, F, _, rfl⟩ := h
  refine ⟨es, clock, hb, F, ?_, rfl⟩
  rw [size_eq, length_sorted]
  simp
theorem IdxB.below {w w' : World} {x b : Nat} {D : DataW Value} {A : Option Addr} {c : Nat} {cols : List Int} {S : List Sh} (h : IdxB w x b D A c cols S) (hb : Below w.heap.size w w') : IdxB w' x b D A c cols S := by
  obtain ⟨h1, h2, h3, h4, h5, h6, h7⟩ := h
  refine ⟨(hb.block x (h6 x (by simp [mus]))).trans h1, h2.keep (Below.keepQ hb _) (fun _ _ h => h), ownsMap_block h3 (hb.block b (h6 b (by simp [mus]))), h4, h5, fun k hk => Nat.lt_of_lt_of_le (h6 k hk) hb.size, fun h hh => ?_⟩
  obtain ⟨a1, a2⟩ := h7 h hh
  exact ⟨(hb.block h.s (h6 h.s (by simp [mus]; exact .inr (.inr ⟨h, hh, .inl rfl⟩)))).trans a1, a2.below hb⟩
theorem IdxAt.below {w w' : World} {x : Nat} {cols : List Int} {S : List Sh} (h : IdxAt w x cols S) (hb : Below w.heap.size w w') : IdxAt w' x cols S := by
  obtain ⟨b, D, A, c, h⟩ := h
  exact ⟨b, D, A, c, h.below hb⟩

/-- Of what was there, only the blocks of M may have changed. -/
def OnlyM (M : List Nat) (w w' : World) : Prop := Below 0 w w' ∧ ∀ k, k < w.heap.size → k ∉ M → w'.heap[k]? = w.heap[k]?
theorem OnlyM.refl (M : List Nat) (w : World) : OnlyM M w w := ⟨Below.refl _ _, fun _ _ _ => rfl⟩
theorem OnlyM.of_below {w w' : World} {M : List Nat} (hb : Below w.heap.size w w') : OnlyM M w w' := ⟨hb.mono (Nat.zero_le _), fun k hk _ => hb.block k hk⟩
theorem OnlyM.trans {w w1 w2 : World} {M M' : List Nat} (h : OnlyM M w w1) (h' : OnlyM M' w1 w2) (hM : ∀ k ∈ M', k < w.heap.size → k ∈ M) : OnlyM M w w2 :=
  ⟨h.1.trans h'.1, fun k hk hn => (h'.2 k (Nat.lt_of_lt_of_le hk h.1.size) (fun hm => hn (hM k hm hk))).trans (h.2 k hk hn)⟩
theorem OnlyM.of_only {w w' : World} {g : Nat} {M : List Nat} (h : Only g w w') (hg : g ∈ M) : OnlyM M w w' := ⟨h.1.mono (Nat.zero_le _), fun k hk hn => h.2 k hk (fun e => hn (e ▸ hg))⟩
theorem OnlyM.back {w w' : World} {M : List Nat} {B : Nat} (h : OnlyM M w w') (hB : B ≤ w.heap.size) (hM : ∀ k ∈ M, B ≤ k) : Below B w w' :=
  ⟨h.1.os, h.1.tape, h.1.output, h.1.size, fun k hk => h.2 k (Nat.lt_of_lt_of_le hk hB) (fun hm => by have := hM k hm; omega)⟩
theorem OnlyM.grown {w w' : World} {M : List Nat} {b : Nat} (h : w.grownBy w' (some b)) (hb : b ∈ M) : OnlyM M w w' :=
  ⟨⟨h.os, h.tape, h.output, h.size, fun k hk => absurd hk (Nat.not_lt_zero _)⟩, fun k hk hn => h.block k hk (fun e => hn (by injection e with e; exact e ▸ hb))⟩
theorem OnlyM.keepQ {w w' : World} {M : List Nat} (h : OnlyM M w w') {Q : Nat → Prop} (hq : ∀ k, Q k → k ∉ M) : KeepQ Q w w' := fun k hk hl => h.2 k hl (hq k hk)

theorem lawK : Keyed Try.prog 9 := string_keyed Try.underlying9
theorem zeroP (w : World) : (zeroValue 134).run Try.prog w = .ok (.pointer none) w := by kernel_rfl

set_option maxRecDepth 10000 in
theorem look_S {w : World} {x b : Nat} {D : DataW Value} {A : Option Addr} {c : Nat} {cols : List Int} {S : List Sh} (h : IdxB w x b D A c cols S) (key : ByteArray) (hk : key.size ≤ maxLen) :
    (Instr.lookup 127 (.map (some b)) (.string key) false).run Try.prog w = .ok (ptrOf (findK S key)) w := by
  obtain ⟨_, _, h3, h4, _⟩ := h
  obtain ⟨v, ps, hrun, hv⟩ := h3.lookup lawK Try.underlying127 (zeroP w) (zd := .held (.pointer none)) (zp := []) rfl (Go.WideMaps.keyOf_string_mk Try.underlying9 hk)
  rw [hrun]
  unfold Rp at hv
  injection hv with hv
  injection hv with hv _
  have h5 := h4.1 key
  unfold kl at h5
  rw [h5] at hv
  injection hv with hv
  rw [hv]
end Go.Proofs.Ytmdkjhnafnblkaa
