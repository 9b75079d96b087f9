/-
  The document's Rule: the rule that a text is, or where, and why, it is none; nothing that was there is changed.
  No condition.
  What the parsers answer is a rule in memory.
  No condition.
  The document's Same at two rules in memory that read alike: true.
  Condition: two rules in memory that read alike.
-/
import Derived.Test.YtkobfngnnblpeaaGreatDoorM15
import Derived.Test.YtkobfngnnblpeaaGreatDoorM28
import Derived.Test.YtkobfngnnblpeaaGreatDoorM35
namespace Go.Proofs.YtkobfngnnblpeaaGreatDoor
section
open Go.RowKit

abbrev zeroRu : Obj := .cells #[.int .i64 0, .string ⟨#[]⟩, .slice none 0 0, .int .i64 0, .string ⟨#[]⟩, .int .i64 0, .slice none 0 0] 35
/-- A rule as it is answered. -/
def RuRes (w w' : World) (e : Ending) (R : RuP × Int × Int) : Prop := ∃ hv bv, e = .returned (.tuple #[.agg #[.int .i64 R.1.k, .string R.1.nm, hv, .int .i64 R.1.ag, .string R.1.ofv, .int .i64 R.1.lim, bv], .int .i64 R.2.1, .int .i64 R.2.2]) ∧ OwnSt w' w.heap.size hv R.1.head ∧ LisAt w' w.heap.size bv R.1.body ∧ Below w.heap.size w w'
/-- Where a rule is read, and the box of what is answered. -/
structure YSt (w W : World) (g x t c base : Nat) (ls : List Tok) (s : Rst) (r : RuP) (hv bv : Value) : Prop where
  X : XSt W g x t c base ls s r hv bv
  b0 : W.heap[w.heap.size]? = some zeroRu
  on : Below w.heap.size w W
  g0 : w.heap.size < g
  gx : x = g + 1
  bs : base = g + 2
section
variable {w W W' : World} {g x t c base : Nat} {ls : List Tok} {s s' : Rst} {r r' : RuP} {hv bv hv' bv' : Value}
theorem YSt.go (h : YSt w W g x t c base ls s r hv bv) (hx : XSt W' g x t c base ls s' r' hv' bv') (ho : OnlyX g x base W W') : YSt w W' g x t c base ls s' r' hv' bv' := by
  have h1 := h.g0
  have h2 := h.gx
  have h3 := h.bs
  have h4 := h.on.size
  refine ⟨hx, (ho.2 _ (by omega) (Array.getElem?_eq_some_iff.1 h.b0).1 (by omega) (by omega)).trans h.b0, h.on.trans ⟨ho.1.os, ho.1.tape, ho.1.output, ho.1.size, fun k hk => ho.2 k (by omega) (by omega) (by omega) (by omega)⟩, h1, h2, h3⟩
theorem YSt.call (h : YSt w W g x t c base ls s r hv bv) (hr : RdP W' g t c ls s') (ho : OnlyR g W W') : YSt w W' g x t c base ls s' r hv bv := h.go (h.X.call hr ho) (OnlyX.of ho)
theorem YSt.below (h : YSt w W g x t c base ls s r hv bv) (hb : Below W.heap.size W W') : YSt w W' g x t c base ls s r hv bv := h.call (h.X.rd.below hb) (OnlyR.of hb)
theorem YSt.set0 (h : YSt w W g x t c base ls s r hv bv) (k : Int) : YSt w (W.setCell ⟨x, 0, none⟩ (.int .i64 k)) g x t c base ls s { r with k := k } hv bv := h.go (h.X.set0 k) (OnlyX.set _ _ _ _ _ _)
theorem YSt.set1 (h : YSt w W g x t c base ls s r hv bv) (k : ByteArray) : YSt w (W.setCell ⟨x, 1, none⟩ (.string k)) g x t c base ls s { r with nm := k } hv bv := h.go (h.X.set1 k) (OnlyX.set _ _ _ _ _ _)
theorem YSt.set5 (h : YSt w W g x t c base ls s r hv bv) (k : Int) : YSt w (W.setCell ⟨x, 5, none⟩ (.int .i64 k)) g x t c base ls s { r with lim := k } hv bv := h.go (h.X.set5 k) (OnlyX.set _ _ _ _ _ _)
/-- What is answered. -/
theorem YSt.res (h : YSt w W g x t c base ls s r hv bv) (v0 v1 v2 v3 v4 v5 v6 : Value) :
    let W' := ((((((W.setCell ⟨w.heap.size, 0, none⟩ v0).setCell ⟨w.heap.size, 1, none⟩ v1).setCell ⟨w.heap.size, 2, none⟩ v2).setCell ⟨w.heap.size, 3, none⟩ v3).setCell ⟨w.heap.size, 4, none⟩ v4).setCell ⟨w.heap.size, 5, none⟩ v5).setCell ⟨w.heap.size, 6, none⟩ v6
    OwnSt W' w.heap.size hv r.head ∧ LisAt W' w.heap.size bv r.body ∧ Below w.heap.size w W' := by
  have h1 := h.g0
  have h2 := h.gx
  have h3 := h.bs
  have hs : ∀ (A : World) (i : Nat) (v : Value) (k : Nat), k ≠ w.heap.size → (A.setCell ⟨w.heap.size, i, none⟩ v).heap[k]? = A.heap[k]? := fun A i v k hk => Below.heap_setCell A ⟨w.heap.size, i, none⟩ v k hk
  have hall : ∀ k, k ≠ w.heap.size → (((((((W.setCell ⟨w.heap.size, 0, none⟩ v0).setCell ⟨w.heap.size, 1, none⟩ v1).setCell ⟨w.heap.size, 2, none⟩ v2).setCell ⟨w.heap.size, 3, none⟩ v3).setCell ⟨w.heap.size, 4, none⟩ v4).setCell ⟨w.heap.size, 5, none⟩ v5).setCell ⟨w.heap.size, 6, none⟩ v6).heap[k]? = W.heap[k]? := fun k hk => by
    rw [hs _ 6 v6 k hk, hs _ 5 v5 k hk, hs _ 4 v4 k hk, hs _ 3 v3 k hk, hs _ 2 v2 k hk, hs _ 1 v1 k hk, hs _ 0 v0 k hk]
  refine ⟨(h.X.hd.byBlock fun k hk => hall k (by have := (h.X.hd.lt k hk).1; omega)).lower (by omega), ?_, ?_⟩
  · obtain ⟨qs, q1, q2, q3⟩ := h.X.bd
    refine ⟨qs, (q1.byBlock fun k hk => hall k (by have := (q1.lt k hk).1; omega)).lower (by omega), q2, fun i q y ha hb => ?_⟩
    obtain ⟨a, b, c', d⟩ := q3 i q y ha hb
    exact ⟨a, b, c', (d.byBlock fun b' cur hl hh => hall b' (by omega)).lower (by omega)⟩
  · exact bset (bset (bset (bset (bset (bset (bset h.on))))))
end
theorem box7r_of {W : World} {g : Nat} {a b c d e f k : Value} {T : TypeId} (h : W.heap[g]? = some (.cells #[a, b, c, d, e, f, k] T (0, 0))) :
    W.cell? ⟨g, 0, none⟩ = some a ∧ W.cell? ⟨g, 1, none⟩ = some b ∧ W.cell? ⟨g, 2, none⟩ = some c ∧ W.cell? ⟨g, 3, none⟩ = some d ∧ W.cell? ⟨g, 4, none⟩ = some e ∧ W.cell? ⟨g, 5, none⟩ = some f ∧ W.cell? ⟨g, 6, none⟩ = some k ∧ (∀ i, W.frozen? ⟨g, i, none⟩ = false) :=
  ⟨cell_of_row _ g 0 _ _ (0, 0) h, cell_of_row _ g 1 _ _ (0, 0) h, cell_of_row _ g 2 _ _ (0, 0) h, cell_of_row _ g 3 _ _ (0, 0) h, cell_of_row _ g 4 _ _ (0, 0) h, cell_of_row _ g 5 _ _ (0, 0) h, cell_of_row _ g 6 _ _ (0, 0) h, fun i => by simp [World.frozen?, h]⟩
theorem lexR_some {l : List UInt8} (h : (lexR l).2.2 = 0) : 0 < (lexR l).1.length ∧ (lexR l).1.length ≤ 400 := by
  rcases lexR_cases l with ⟨_, h1⟩ | ⟨_, h2, h3, _⟩
  · exact absurd h h1
  · rw [h3]
    have hl := lexA_len l.length l
    refine ⟨?_, by omega⟩
    rw [lexA_step]
    simp
theorem takeR_no {ls : List Tok} {s : Rst} {l : List UInt8} (h : isR ls s l = false) : takeR ls s l = s := by unfold takeR; rw [h]; rfl
theorem ki1 {ls : List Tok} {s : Rst} (h : isR ls s wDeny = true) : kiK ls s = 1 ∧ kiS ls s = takeR ls s wDeny := by
  have e : kiK ls s = 1 := by unfold kiK; rw [if_pos h]
  refine ⟨e, ?_⟩
  unfold kiS takeR
  rw [e, if_pos h]
  rfl
theorem ki2 {ls : List Tok} {s : Rst} (h1 : isR ls s wDeny = false) (h : isR ls s wView = true) : kiK ls s = 2 ∧ kiS ls s = takeR ls s wView := by
  have e : kiK ls s = 2 := by unfold kiK; rw [h1, if_neg Bool.false_ne_true, if_pos h]
  refine ⟨e, ?_⟩
  unfold kiS takeR
  rw [e, if_pos h]
  rfl
theorem ki3 {ls : List Tok} {s : Rst} (h1 : isR ls s wDeny = false) (h2 : isR ls s wView = false) (h : isR ls s wQuota = true) : kiK ls s = 3 ∧ kiS ls s = takeR ls s wQuota := by
  have e : kiK ls s = 3 := by unfold kiK; rw [h1, if_neg Bool.false_ne_true, h2, if_neg Bool.false_ne_true, if_pos h]
  refine ⟨e, ?_⟩
  unfold kiS takeR
  rw [e, if_pos h]
  rfl
theorem ki0 {ls : List Tok} {s : Rst} (h1 : isR ls s wDeny = false) (h2 : isR ls s wView = false) (h : isR ls s wQuota = false) : kiK ls s = 0 ∧ kiS ls s = failR s 7 (nowR ls s).a := by
  have e : kiK ls s = 0 := by unfold kiK; rw [h1, if_neg Bool.false_ne_true, h2, if_neg Bool.false_ne_true, h, if_neg Bool.false_ne_true]
  refine ⟨e, ?_⟩
  unfold kiS
  rw [e]
  rfl
theorem now_fail (ls : List Tok) (s : Rst) (a b : Int) : nowR ls (failR s a b) = nowR ls s := by unfold nowR; rw [failR_i]
theorem field_at2 (k : Int) (b : ByteArray) (vk : Int) (vf : Bool) (vn : Int) (vt : ByteArray) (a : Int) (W : World) : (Instr.field 65 (.agg #[.int .i64 k, .string b, .int .i64 vk, .bool vf, .int .i64 vn, .string vt, .int .i64 a]) 2).run Tryz.prog W = .ok (.agg #[.int .i64 vk, .bool vf, .int .i64 vn, .string vt]) W := by kernel_rfl
theorem field_v0 (vk : Int) (vf : Bool) (vn : Int) (vt : ByteArray) (W : World) : (Instr.field 29 (.agg #[.int .i64 vk, .bool vf, .int .i64 vn, .string vt]) 0).run Tryz.prog W = .ok (.int .i64 vk) W := by kernel_rfl
theorem field_v2 (vk : Int) (vf : Bool) (vn : Int) (vt : ByteArray) (W : World) : (Instr.field 29 (.agg #[.int .i64 vk, .bool vf, .int .i64 vn, .string vt]) 2).run Tryz.prog W = .ok (.int .i64 vn) W := by kernel_rfl
theorem rp_takeL {w : World} {g t c : Nat} {ls : List Tok} {s : Rst} (h : RdP w g t c ls s) (u : ByteArray) (l : List UInt8) (hu : u.data.toList = l) :
    Calls Tryz.prog 17 #[.pointer (some ⟨g, 0, none⟩), .string u] w fun e w' => e = .returned (.bool (isR ls s l)) ∧ RdP w' g t c ls (takeR ls s l) ∧ OnlyR g w w' := by
  subst hu
  exact rp_take h u
theorem rp_mustL {w : World} {g t c : Nat} {ls : List Tok} {s : Rst} (h : RdP w g t c ls s) (u : ByteArray) (l : List UInt8) (hu : u.data.toList = l) :
    Calls Tryz.prog 21 #[.pointer (some ⟨g, 0, none⟩), .string u] w fun e w' => e = .returned (.tuple #[]) ∧ RdP w' g t c ls (mustR ls s l) ∧ OnlyR g w w' := by
  subst hu
  exact rp_must h u
end
end Go.Proofs.YtkobfngnnblpeaaGreatDoor
namespace Go.Proofs.YtkobfngnnblpeaaGreatDoor
section
open Go.RowKit

theorem ArgsAt.els {w : World} {base : Nat} {v : Value} {l : List TmP} (h : ArgsAt w base v l) : ∃ A c, v = .slice A l.length c ∧ ElsAt TmP.cells 6 w A l := by
  rcases h with ⟨rfl, rfl⟩ | ⟨b, c, cur, rfl, _, _, he⟩
  · exact ⟨none, 0, rfl, fun i x hi => by simp at hi⟩
  · exact ⟨_, c, rfl, he⟩
theorem LisAt.lgs {W : World} {base : Nat} {v : Value} {l : List LiP} (h : LisAt W base v l) : ∃ (A : Option Addr) (c : Nat) (body : List LmG), v = .slice A body.length c ∧ body.map LmG.li = l ∧ LgsAt W A body := by
  obtain ⟨qs, h1, h2, h3⟩ := h
  have hsl : ∃ A c, v = .slice A qs.length c ∧ ElsAt LmQ.cells 4 W A qs := by
    rcases h1.slice el_Lm with ⟨rfl, rfl⟩ | ⟨g, c, rfl, _, _, _, he⟩
    · exact ⟨none, 0, rfl, fun i x hi => by simp at hi⟩
    · exact ⟨_, c, rfl, he⟩
  obtain ⟨A, c, rfl, he⟩ := hsl
  have hex : ∀ i : Fin l.length, ∃ g : LmG, l[i.1]? = some g.li ∧ ElsAt TmP.cells 6 W g.A g.args ∧ ∀ q, qs[i.1]? = some q → g.cells = LmQ.cells q := by
    intro i
    obtain ⟨y, hy⟩ : ∃ y, l[i.1]? = some y := ⟨_, List.getElem?_eq_getElem i.2⟩
    obtain ⟨q, hq⟩ : ∃ q, qs[i.1]? = some q := ⟨_, List.getElem?_eq_getElem (by have := i.2; omega)⟩
    obtain ⟨a, b, d, e⟩ := h3 i.1 q y hq hy
    obtain ⟨B, k, hv, hels⟩ := e.els
    refine ⟨⟨y.n, y.s, B, k, y.args, y.o⟩, hy, hels, fun q2 hq2 => ?_⟩
    rw [hq] at hq2
    injection hq2 with hq2
    subst hq2
    unfold LmQ.cells LmP.cells
    rw [a, b, d, hv]
  refine ⟨A, c, List.ofFn fun i => (hex i).choose, by rw [List.length_ofFn, ← h2], ?_, ?_, ?_⟩
  · refine List.ext_getElem? fun i => ?_
    rw [List.getElem?_map, List.getElem?_ofFn]
    by_cases hi : i < l.length
    · rw [dif_pos hi]
      exact ((hex ⟨i, hi⟩).choose_spec.1).symm
    · rw [dif_neg hi, List.getElem?_eq_none (by omega)]
      rfl
  · intro i x hi
    rw [List.getElem?_ofFn] at hi
    by_cases hl : i < l.length
    · rw [dif_pos hl] at hi
      injection hi with hi
      obtain ⟨q, hq⟩ : ∃ q, qs[i]? = some q := ⟨_, List.getElem?_eq_getElem (by omega)⟩
      obtain ⟨a, ha, hc⟩ := he i q hq
      refine ⟨a, ha, fun j u hj => hc j u ?_⟩
      rw [← hi, (hex ⟨i, hl⟩).choose_spec.2.2 q hq] at hj
      exact hj
    · rw [dif_neg hl] at hi
      cases hi
  · intro x hx
    obtain ⟨i, rfl⟩ := List.mem_ofFn.1 hx
    exact (hex i).choose_spec.2.1
/-- What the parser answers is a rule in memory. -/
theorem RuRes.rule {w w' : World} {e : Ending} {R : RuP × Int × Int} (h : RuRes w w' e R) : ∃ G : RuG, e = .returned (.tuple #[.agg G.cells, .int .i64 R.2.1, .int .i64 R.2.2]) ∧ G.pl = R.1 ∧ G.Ok w' ∧ Below w.heap.size w w' := by
  obtain ⟨hv, bv, rfl, h1, h2, h3⟩ := h
  obtain ⟨A, c, rfl, he⟩ := OwnF.els h1
  obtain ⟨B, d, body, rfl, hm, hl⟩ := h2.lgs
  obtain ⟨⟨k, nm, head, ag, ofv, lim, bd⟩, z, y⟩ := R
  simp only at he hm hl h3
  subst hm
  exact ⟨⟨k, nm, A, c, head, ag, ofv, lim, B, d, body⟩, rfl, rfl, ⟨he, hl⟩, h3⟩
end
end Go.Proofs.YtkobfngnnblpeaaGreatDoor
namespace Go.Proofs.YtkobfngnnblpeaaGreatDoor
section
open Go.RowKit

theorem equal_tm (s : ByteArray) (a : Bool) (vk : Int) (vf : Bool) (vn : Int) (vt : ByteArray) (w : World) :
    (Op.equalIn 10000 47 (.agg #[.string s, .bool a, .int .i64 vk, .bool vf, .int .i64 vn, .string vt]) (.agg #[.string s, .bool a, .int .i64 vk, .bool vf, .int .i64 vn, .string vt])).run Tryz.prog w = .ok true w := by
  have hS : Tryz.prog.underlying 47 = some (.struct (Tryz.prog.fieldsOf 47)) := by kernel_rfl
  have hv := equal_val' 9997 vk vf vn vt w
  rw [show (10000 : Nat) = 9999 + 1 from rfl, run_equalIn_agg w 9999 47 _ _ hS (by kernel_rfl)]
  simp only [Program.fieldsOf, Tryz.underlying47]
  go_simp
abbrev liO (n : Bool) (s : ByteArray) (A : Option Addr) (l c : Nat) (o : Int) : Obj := .cells #[.bool n, .string s, .slice A l c, .int .i64 o] 50
set_option maxRecDepth 100000 in
set_option maxHeartbeats 2000000 in
theorem r_literal (n : Bool) (s : ByteArray) (args : List TmP) (o : Int) (A A2 : Option Addr) (c c2 : Nat) (w : World) (h1 : ElsAt TmP.cells 6 w A args) (h2 : ElsAt TmP.cells 6 w A2 args) (hl : args.length ≤ 1000000) :
    Calls Tryz.prog 15 #[.agg #[.bool n, .string s, .slice A args.length c, .int .i64 o], .agg #[.bool n, .string s, .slice A2 args.length c2, .int .i64 o]] w fun e w' => e = .returned (.bool true) ∧ Below w.heap.size w w' := by
  have hon := two_new w (liO n s A args.length c o) (liO n s A2 args.length c2 o)
  have HON := Lib.hid hon
  have H1 := Lib.hid (h1.below hon)
  have H2 := Lib.hid (h2.below hon)
  have K1 := Lib.hid (first_of_two w (liO n s A args.length c o) (liO n s A2 args.length c2 o))
  have K2 := Lib.hid (second_of_two w (liO n s A args.length c o) (liO n s A2 args.length c2 o))
  have HEQ := Lib.hid equal_tm
  obtain ⟨c0, c1, c2', c3, _⟩ := box4_of K1.out
  obtain ⟨d0, d1, d2, d3, _⟩ := box4_of K2.out
  have hsb : (s.toList == s.toList) = true := by simp
  clear h1 h2 hon
  go_enter Tryz.func15, Tryz.ntmps15
  go_wp2
  go_loopw [5] (fun i wr => ∃ k : Nat, i = .int .i64 k ∧ k ≤ args.length ∧ Below (w.heap.size + 2) ((w.alloc (liO n s A args.length c o)).alloc (liO n s A2 args.length c2 o)) wr) (fun i _ => args.length - (intOf i).toNat)
  case atStart => exact ⟨0, rfl, Nat.zero_le _, Below.refl _ _⟩
  case round =>
    obtain ⟨k, rfl, hk, hb⟩ := hrel
    have HB := Lib.hid hb
    have hb' : Below ((w.alloc (liO n s A args.length c o)).alloc (liO n s A2 args.length c2 o)).heap.size ((w.alloc (liO n s A args.length c o)).alloc (liO n s A2 args.length c2 o)) wr := by simpa using hb
    obtain ⟨c0, c1, c2', c3, _⟩ := box4_of ((hb.block w.heap.size (by omega)).trans K1.out)
    obtain ⟨d0, d1, d2, d3, _⟩ := box4_of ((hb.block (w.heap.size + 1) (by omega)).trans K2.out)
    by_cases hlt : k < args.length
    · obtain ⟨x, hx⟩ : ∃ x, args[k]? = some x := ⟨_, List.getElem?_eq_getElem hlt⟩
      obtain ⟨a, rfl, a0, a1, a2, a3, a4, a5⟩ := els_T (H1.out.below hb') hx
      obtain ⟨b, rfl, b0, b1, b2, b3, b4, b5⟩ := els_T (H2.out.below hb') hx
      obtain ⟨xs, xa, ⟨xk, xf, xn, xt⟩⟩ := x
      simp only at a0 a1 a2 a3 a4 a5 b0 b1 b2 b3 b4 b5
      have heq := HEQ.out xs xa xk xf xn xt
      clear hb hb' hx
      go_wp2
      go_region
      all_goals
        go_wp2
        go_roundw
        case rel => exact ⟨k + 1, by go_num, by omega, HB.out.drew⟩
        case measure => simp [intOf]; omega
    · have HBE : Hid (Below w.heap.size w wr) := Lib.hid (HON.out.trans (hb.mono (by omega)))
      clear hb hb'
      go_wp2
      go_ret
      exact ⟨rfl, HBE.out⟩
end
end Go.Proofs.YtkobfngnnblpeaaGreatDoor
