/-
  The program's parser: what stands in a head's brackets.
  Condition: no more than four hundred tokens, and one that is left; nothing was read of the head yet.
-/
import Derived.Test.YtkobfngnnblpeaaGreatDoorM40
namespace Go.Proofs.YtkobfngnnblpeaaGreatDoor
open Go.RowKit

abbrev upH (r : RuP) (y : HeP) : RuP := { r with head := y.h, ag := y.ag, ofv := y.ofv, lim := y.lim }
theorem nameP_tail {ts r : List Tok} {b : ByteArray} (h : nameP ts = .ok b r) : r = ts.tail := by
  unfold nameP at h
  split at h
  · injection h with _ h; exact h.symm
  · cases h
set_option maxRecDepth 100000 in
set_option maxHeartbeats 4000000 in
theorem k_head {W : World} {g x t base i : Nat} {ls : List Tok} {r : RuP} {hv : Value} (h : KSt W g x t base ls i r hv) (hA : AtI ls i) (hh0 : r.head = []) (hag : r.ag = 0) (hof : r.ofv = ⟨#[]⟩) (hlm : r.lim = 0) :
    Calls Tryz.prog 35 #[.pointer (some ⟨g, 0, none⟩), .pointer (some ⟨x, 0, none⟩)] W (ResX W g x t base ls (upH r) (heGo r.k 400 [] (ls.drop i))) := by
  obtain ⟨R, hR⟩ : ∃ R, heGo r.k 400 [] (ls.drop i) = R := ⟨_, rfl⟩
  rw [hR]
  have HP := Lib.hid hR.symm
  have HG := Lib.hid hA.g
  have HS := Lib.hid h
  have HA0 := Lib.hid hA
  have h0 : KSt W g x t base ls i { r with head := [] } hv := by rw [← hh0]; exact h
  have HS0 := Lib.hid h0
  have HE0 : Hid (∀ hh : List ByteArray, upH r ⟨hh, 0, ⟨#[]⟩, 0⟩ = { r with head := hh }) := Lib.hid fun hh => by
    show (⟨r.k, r.nm, hh, 0, ⟨#[]⟩, 0, r.body⟩ : RuP) = ⟨r.k, r.nm, hh, r.ag, r.ofv, r.lim, r.body⟩
    rw [hag, hof, hlm]
  have HE1 : Hid (∀ (hh : List ByteArray) (a : Int) (o : ByteArray), upH r ⟨hh, a, o, 0⟩ = { r with head := hh, ag := a, ofv := o }) := Lib.hid fun hh a o => by
    show (⟨r.k, r.nm, hh, a, o, 0, r.body⟩ : RuP) = ⟨r.k, r.nm, hh, a, o, r.lim, r.body⟩
    rw [hlm]
  have HOF := Lib.hid hof
  clear h hA hh0 hag hof hlm hR h0
  go_enter Tryz.func35, Tryz.ntmps35
  go_wp2
  go_loopw [4] (fun m wr => ∃ (q : Bool) (f : Nat) (h : List ByteArray) (j : Nat) (hv : Value), m = .bool q ∧ h.length ≤ 40 ∧ KSt wr g x t base ls j { r with head := h } hv ∧ AtI ls j ∧ (q = true → ls.length ≤ j + f) ∧ Hid (R = if q = true then heGo r.k f h (ls.drop j) else (needP (ls.drop j) wShut).bind fun _ r => .ok ⟨h, 0, ⟨#[]⟩, 0⟩ r) ∧ OnlyX g x base W wr) (fun m wr => 2 * leftK wr g + qvM m)
  case atStart => exact ⟨true, 400, [], i, hv, rfl, by simp, HS0.out, HA0.out, fun _ => by have := HG.out.2; omega, Lib.hid HP.out, OnlyX.refl _ _ _ _⟩
  case round =>
    clear HS0 HA0 HP
    obtain ⟨q, f, h, j, hv, rfl, hl, hk, hj, hf, HA, ho⟩ := hrel
    have HO := Lib.hid ho
    have HK := Lib.hid hk
    have HJ := Lib.hid hj
    cases q with
    | true =>
      have hji := hj.i
      have hszb := hk.sz
      have hf := hf rfl
      obtain ⟨f', hf'⟩ : ∃ f', f = f' + 1 := ⟨f - 1, by omega⟩
      subst hf'
      obtain ⟨⟨k, b, ⟨vk, vf, vn, vt⟩, a⟩, hX⟩ : ∃ z, hdT (ls.drop j) = z := ⟨_, rfl⟩
      have HX := Lib.hid hX
      have HLF := Lib.hid hk.rd.left
      have HA2 : Hid (R = if r.k = 2 ∧ agT ⟨k, b, ⟨vk, vf, vn, vt⟩, a⟩ ≠ 0 then (aggP r.k (ls.drop j)).bind fun z r => (needP r wShut).bind fun _ r => .ok ⟨h, z.1, z.2, 0⟩ r else (nameP (ls.drop j)).bind fun nm r' => if h.length = 40 then .bad a 9 else if hasP r' wComma = true then heGo r.k f' (h ++ [nm]) r'.tail else (needP r' wShut).bind fun _ r => .ok ⟨h ++ [nm], 0, ⟨#[]⟩, 0⟩ r) := Lib.hid (by rw [HA.out, if_pos rfl, heGo, hX])
      obtain ⟨c0, _, _, _, _, _, _⟩ := hk.bx.cell
      have c0 : wr.cell? ⟨x, 0, none⟩ = some (.int .i64 r.k) := c0
      by_cases hk2 : r.k = 2
      · have bk : (r.k == 2) = true := by simpa using hk2
        have HLK := Lib.hid (k_look hk.rd hj.i hX)
        have HAT := Lib.hid (k_aggT k b vk vf vn vt a)
        obtain ⟨jj, hjj⟩ : ∃ jj, agT ⟨k, b, ⟨vk, vf, vn, vt⟩, a⟩ = jj := ⟨_, rfl⟩
        rw [hjj] at HAT HA2
        obtain ⟨jI, hjI⟩ : ∃ jI : Int, (jj : Int) = jI := ⟨_, rfl⟩
        rw [hjI] at HAT
        by_cases hj0 : jj = 0
        · have bj : (jI != 0) = false := by rw [← hjI, hj0]; rfl
          have hjz : jI = 0 := by rw [← hjI, hj0]; rfl
          have HRN : Hid (R = (nameP (ls.drop j)).bind fun nm r' => if h.length = 40 then .bad a 9 else if hasP r' wComma = true then heGo r.k f' (h ++ [nm]) r'.tail else (needP r' wShut).bind fun _ r => .ok ⟨h ++ [nm], 0, ⟨#[]⟩, 0⟩ r) := Lib.hid (by rw [HA2.out, if_neg (fun e => e.2 hj0)])
          clear ho hk hj HA hX hjj hj0 hjI HA2 hk2
          go_wp2_with (first
            | (go_at_call 71; refine HLK.out.mono ?_; rintro e w1 ⟨rfl, hb1⟩; have HB1 := Lib.hid hb1; clear hb1 HLK)
            | (go_at_call 70; refine (HAT.out _).mono ?_; rintro e w2 ⟨rfl, hb2⟩; have HB2 := Lib.hid (HB1.out.trans (hb2.mono HB1.out.size)); have HK2 := Lib.hid (HK.out.below HB2.out); have HO2 := Lib.hid (HO.out.trans (OnlyX.of (OnlyR.of (g := g) HB2.out))); clear hb2 HAT))
          have hszk := HK2.out.sz
          have HLK := Lib.hid (k_look HK2.out.rd HJ.out.i HX.out)
          go_wp2_with fail
          refine HLK.out.mono ?_
          rintro e w3 ⟨rfl, hb3⟩
          have hbt := hb3.trans ((one_new w3 (tkO k b vk vf vn vt a)).mono hb3.size)
          have HK3 := Lib.hid (HK2.out.below hbt)
          have HO3 := Lib.hid (HO2.out.trans (OnlyX.of (OnlyR.of (g := g) hbt)))
          have HT3 := Lib.hid (heap_alloc_new w3 (tkO k b vk vf vn vt a))
          have HNM := Lib.hid (k_name HK3.out.rd HJ.out)
          have hs3 := hb3.size
          clear hb3 hbt HLK HK2 HO2
          go_wp2_with fail
          refine HNM.out.mono ?_
          intro e w4 hres
          rcases ResP.cases HG.out hres with ⟨nm, v, j1, hp, rfl, rfl, hj1, hr4, ho4⟩ | ⟨a', y, hp, rfl, ho4⟩
          · have hjj : j + 1 = j1 := by
              have h1 := nameP_tail hp
              rw [List.tail_drop] at h1
              exact (drop_inj h1 hj1.i).symm
            subst hjj
            have hk4 := HK3.out.call hr4 ho4
            have HK4 := Lib.hid hk4
            have HO4 := Lib.hid (HO3.out.trans (OnlyX.of ho4))
            have HJ4 := Lib.hid hj1
            have HR4 : Hid (R = if h.length = 40 then .bad a 9 else if hasP (ls.drop (j + 1)) wComma = true then heGo r.k f' (h ++ [nm]) (ls.drop (j + 1 + 1)) else (needP (ls.drop (j + 1)) wShut).bind fun _ r => .ok ⟨h ++ [nm], 0, ⟨#[]⟩, 0⟩ r) := Lib.hid (by rw [HRN.out, bind_go hp, List.tail_drop])
            have hxb := hk4.xb
            have ht4 := (ho4.2 w3.heap.size (by simp) (by have := hk4.gb; omega)).trans HT3.out
            obtain ⟨A, cc, hvv⟩ := hk4.hd.shape
            have hvv : hv = .slice A h.length cc := hvv
            subst hvv
            obtain ⟨_, _, c2, _, _, _, _⟩ := hk4.bx.cell
            clear hp hj1 hr4 ho4 hres HNM HRN hk4
            by_cases h40 : h.length = 40
            · have hlb : ((h.length : Int) == 40) = true := by simp; omega
              have HPB : Hid (R = .bad a 9) := Lib.hid (by rw [HR4.out, if_pos h40])
              obtain ⟨m0, m1, m2, m3, m4, m5, m6⟩ := tok_cells ht4
              clear h40 HR4 ht4
              go_wp2
              exact ⟨rfl, ResX.bad HO4.out HPB.out⟩
            · have hlb : ((h.length : Int) == 40) = false := by simp; omega
              have h40' : h.length < 40 := by omega
              have HR5 : Hid (R = if hasP (ls.drop (j + 1)) wComma = true then heGo r.k f' (h ++ [nm]) (ls.drop (j + 1 + 1)) else (needP (ls.drop (j + 1)) wShut).bind fun _ r => .ok ⟨h ++ [nm], 0, ⟨#[]⟩, 0⟩ r) := Lib.hid (by rw [HR4.out, if_neg h40])
              have hbb := one_new w4 (.cells #[.string nm] 9)
              have hk5 := HK4.out.below hbb
              have HK5 := Lib.hid hk5
              have HO5 := Lib.hid (HO4.out.trans (OnlyX.of (OnlyR.of (g := g) hbb)))
              obtain ⟨_, _, e2, _, _, _, _⟩ := hk5.bx.cell
              have f2 := hk5.bx.frozen 2
              have q2 := lit_F strC w4 nm #[.string nm] 9 rfl
              have q3 : h.length ≤ 1000000 := by omega
              have q4 := hk5.sz
              have q6 : (h ++ [nm]).length = h.length + 1 := by rw [List.length_append]; rfl
              clear h40 HR4 ht4 hbb hk5 HT3 HK4 HO4
              go_wp2_with (first
                | (at_builtin; refine wp_append_F el_Str _ rfl (.tmp 42) (.tmp 44) rfl base (.slice A h.length cc) h nm rfl (by exact HK5.out.hd) ⟨w4.heap.size, 0, none⟩ 1 rfl (by exact q2) q3 (by exact q4) ?_; intro v' w6 hown' hb6 hgrow hor; obtain ⟨A6, c6, hv6⟩ := hown'.shape; rw [q6] at hv6; subst hv6; have hbx := HK5.out.boxGrown hgrow; obtain ⟨_, _, k2, _, _, _, _⟩ := hbx.cell; have k2f := hbx.frozen 2; have hh6 := HK5.out.head hgrow hown'; have HK6 := Lib.hid hh6.1; have HO6 := Lib.hid (HO5.out.trans hh6.2); have HHS := Lib.hid (k_hasL HK6.out.rd HJ4.out ⟨#[44]⟩ wComma (by decide) rfl); clear hown' hb6 hgrow hor hbx hh6))
              generalize hasP (ls.drop (j + 1)) wComma = q7' at *
              refine HHS.out.mono ?_
              rintro e w7 ⟨rfl, ho7, hr1, hr0⟩
              have HO7 := Lib.hid (HO6.out.trans (OnlyX.of ho7))
              cases q7' with
              | true =>
                obtain ⟨hi7, hr7⟩ := hr1 (by trivial)
                have HI7 := Lib.hid hi7
                have HK7 := Lib.hid (HK6.out.call hr7 ho7)
                clear hr1 hr0 ho7 HHS hi7 hr7
                go_wp2
                go_roundw
                case rel => exact ⟨true, f', h ++ [nm], j + 1 + 1, _, rfl, by rw [q6]; omega, HK7.out, HI7.out, fun _ => by omega, Lib.hid (by rw [HR5.out]; rfl), HO7.out⟩
                case measure =>
                  rw [HK7.out.rd.left, HLF.out]
                  have := HI7.out.i
                  simp only [qvM]
                  omega
              | false =>
                have HK7 := Lib.hid (HK6.out.call (hr0 (by trivial)) ho7)
                clear hr1 hr0 ho7 HHS
                go_wp2
                go_roundw
                case rel => exact ⟨false, f', h ++ [nm], j + 1, _, rfl, by rw [q6]; omega, HK7.out, HJ4.out, (fun e => by cases e), Lib.hid (by rw [HR5.out]; rfl), HO7.out⟩
                case measure =>
                  rw [HK7.out.rd.left, HLF.out]
                  have := HJ4.out.i
                  simp only [qvM]
                  omega
          · have HPB : Hid (R = .bad a' y) := Lib.hid (by rw [HRN.out, bind_bad hp])
            have HO4 := Lib.hid (HO3.out.trans (OnlyX.of ho4))
            clear hp ho4 hres HNM HRN
            go_wp2
            exact ⟨rfl, ResX.bad HO4.out HPB.out⟩
        · have bj : (jI != 0) = true := by rw [← hjI]; simp; omega
          have hjz : ¬ jI = 0 := by omega
          have HRN : Hid (R = (aggP r.k (ls.drop j)).bind fun z r => (needP r wShut).bind fun _ r => .ok ⟨h, z.1, z.2, 0⟩ r) := Lib.hid (by rw [HA2.out, if_pos ⟨hk2, hj0⟩])
          clear ho hk hj HA hX hjj hj0 hjI HA2 hk2
          go_wp2_with (first
            | (go_at_call 71; refine HLK.out.mono ?_; rintro e w1 ⟨rfl, hb1⟩; have HB1 := Lib.hid hb1; clear hb1 HLK)
            | (go_at_call 70; refine (HAT.out _).mono ?_; rintro e w2 ⟨rfl, hb2⟩; have HB2 := Lib.hid (HB1.out.trans (hb2.mono HB1.out.size)); have HK2 := Lib.hid (HK.out.below HB2.out); have HO2 := Lib.hid (HO.out.trans (OnlyX.of (OnlyR.of (g := g) HB2.out))); clear hb2 HAT))
          have HAG := Lib.hid (k_agg HK2.out HJ.out HOF.out)
          refine HAG.out.mono ?_
          intro e w3 hres
          rcases ResX.cases hres with ⟨⟨za, zo⟩, j3, hv3, hp, rfl, hj3, hk3, ho3⟩ | ⟨a', y, hp, rfl, ho3⟩
          · have HKS := Lib.hid hk3
            have HJS := Lib.hid hj3
            have HOS := Lib.hid (HO2.out.trans ho3)
            have HRS : Hid (R = (needP (ls.drop j3) wShut).bind fun _ r => .ok ⟨h, za, zo, 0⟩ r) := Lib.hid (by rw [HRN.out]; exact bind_go hp)
            clear hp hj3 hk3 ho3 hres HAG HRN
            have HND := Lib.hid (k_needL HKS.out.rd HJS.out ⟨#[41]⟩ wShut (by decide) rfl)
            go_wp2_with fail
            refine HND.out.mono ?_
            intro e w8 hres
            rcases ResP.cases HG.out hres with ⟨u, v, j8, hp, rfl, rfl, hj8, hr8, ho8⟩ | ⟨a', y, hp, rfl, ho8⟩
            · have HK8 := Lib.hid (HKS.out.call hr8 ho8)
              have HO8 := Lib.hid (HOS.out.trans (OnlyX.of ho8))
              have HJ8 := Lib.hid hj8
              have HPE : Hid (R = .ok ⟨h, za, zo, 0⟩ (ls.drop j8)) := Lib.hid (by rw [HRS.out, bind_go hp])
              clear hp hj8 hr8 ho8 hres HND HRS
              go_wp2
              refine bodyPost_ret (results_none rfl _ _ _) rfl ?_
              exact ResX.ok HO8.out HPE.out HJ8.out (by rw [HE1.out]; exact HK8.out)
            · have HPB : Hid (R = .bad a' y) := Lib.hid (by rw [HRS.out, bind_bad hp])
              have HO8 := Lib.hid (HOS.out.trans (OnlyX.of ho8))
              clear hp ho8 hres HND HRS
              go_wp2
              exact ⟨rfl, ResX.bad HO8.out HPB.out⟩
          · have HPB : Hid (R = .bad a' y) := Lib.hid (by rw [HRN.out]; exact bind_bad hp)
            have HO3 := Lib.hid (HO2.out.trans ho3)
            clear hp ho3 hres HAG HRN
            go_wp2
            exact ⟨rfl, ResX.bad HO3.out HPB.out⟩
      · have bk : (r.k == 2) = false := by simpa using hk2
        have HRN : Hid (R = (nameP (ls.drop j)).bind fun nm r' => if h.length = 40 then .bad a 9 else if hasP r' wComma = true then heGo r.k f' (h ++ [nm]) r'.tail else (needP r' wShut).bind fun _ r => .ok ⟨h ++ [nm], 0, ⟨#[]⟩, 0⟩ r) := Lib.hid (by rw [HA2.out, if_neg (fun e => hk2 e.1)])
        have HK2 := HK
        have HO2 := HO
        clear ho hk hj HA hX hk2 HA2
        have hszk := HK2.out.sz
        have HLK := Lib.hid (k_look HK2.out.rd HJ.out.i HX.out)
        go_wp2_with fail
        refine HLK.out.mono ?_
        rintro e w3 ⟨rfl, hb3⟩
        have hbt := hb3.trans ((one_new w3 (tkO k b vk vf vn vt a)).mono hb3.size)
        have HK3 := Lib.hid (HK2.out.below hbt)
        have HO3 := Lib.hid (HO2.out.trans (OnlyX.of (OnlyR.of (g := g) hbt)))
        have HT3 := Lib.hid (heap_alloc_new w3 (tkO k b vk vf vn vt a))
        have HNM := Lib.hid (k_name HK3.out.rd HJ.out)
        have hs3 := hb3.size
        clear hb3 hbt HLK HK2 HO2
        go_wp2_with fail
        refine HNM.out.mono ?_
        intro e w4 hres
        rcases ResP.cases HG.out hres with ⟨nm, v, j1, hp, rfl, rfl, hj1, hr4, ho4⟩ | ⟨a', y, hp, rfl, ho4⟩
        · have hjj : j + 1 = j1 := by
            have h1 := nameP_tail hp
            rw [List.tail_drop] at h1
            exact (drop_inj h1 hj1.i).symm
          subst hjj
          have hk4 := HK3.out.call hr4 ho4
          have HK4 := Lib.hid hk4
          have HO4 := Lib.hid (HO3.out.trans (OnlyX.of ho4))
          have HJ4 := Lib.hid hj1
          have HR4 : Hid (R = if h.length = 40 then .bad a 9 else if hasP (ls.drop (j + 1)) wComma = true then heGo r.k f' (h ++ [nm]) (ls.drop (j + 1 + 1)) else (needP (ls.drop (j + 1)) wShut).bind fun _ r => .ok ⟨h ++ [nm], 0, ⟨#[]⟩, 0⟩ r) := Lib.hid (by rw [HRN.out, bind_go hp, List.tail_drop])
          have hxb := hk4.xb
          have ht4 := (ho4.2 w3.heap.size (by simp) (by have := hk4.gb; omega)).trans HT3.out
          obtain ⟨A, cc, hvv⟩ := hk4.hd.shape
          have hvv : hv = .slice A h.length cc := hvv
          subst hvv
          obtain ⟨_, _, c2, _, _, _, _⟩ := hk4.bx.cell
          clear hp hj1 hr4 ho4 hres HNM HRN hk4
          by_cases h40 : h.length = 40
          · have hlb : ((h.length : Int) == 40) = true := by simp; omega
            have HPB : Hid (R = .bad a 9) := Lib.hid (by rw [HR4.out, if_pos h40])
            obtain ⟨m0, m1, m2, m3, m4, m5, m6⟩ := tok_cells ht4
            clear h40 HR4 ht4
            go_wp2
            exact ⟨rfl, ResX.bad HO4.out HPB.out⟩
          · have hlb : ((h.length : Int) == 40) = false := by simp; omega
            have h40' : h.length < 40 := by omega
            have HR5 : Hid (R = if hasP (ls.drop (j + 1)) wComma = true then heGo r.k f' (h ++ [nm]) (ls.drop (j + 1 + 1)) else (needP (ls.drop (j + 1)) wShut).bind fun _ r => .ok ⟨h ++ [nm], 0, ⟨#[]⟩, 0⟩ r) := Lib.hid (by rw [HR4.out, if_neg h40])
            have hbb := one_new w4 (.cells #[.string nm] 9)
            have hk5 := HK4.out.below hbb
            have HK5 := Lib.hid hk5
            have HO5 := Lib.hid (HO4.out.trans (OnlyX.of (OnlyR.of (g := g) hbb)))
            obtain ⟨_, _, e2, _, _, _, _⟩ := hk5.bx.cell
            have f2 := hk5.bx.frozen 2
            have q2 := lit_F strC w4 nm #[.string nm] 9 rfl
            have q3 : h.length ≤ 1000000 := by omega
            have q4 := hk5.sz
            have q6 : (h ++ [nm]).length = h.length + 1 := by rw [List.length_append]; rfl
            clear h40 HR4 ht4 hbb hk5 HT3 HK4 HO4
            go_wp2_with (first
              | (at_builtin; refine wp_append_F el_Str _ rfl (.tmp 42) (.tmp 44) rfl base (.slice A h.length cc) h nm rfl (by exact HK5.out.hd) ⟨w4.heap.size, 0, none⟩ 1 rfl (by exact q2) q3 (by exact q4) ?_; intro v' w6 hown' hb6 hgrow hor; obtain ⟨A6, c6, hv6⟩ := hown'.shape; rw [q6] at hv6; subst hv6; have hbx := HK5.out.boxGrown hgrow; obtain ⟨_, _, k2, _, _, _, _⟩ := hbx.cell; have k2f := hbx.frozen 2; have hh6 := HK5.out.head hgrow hown'; have HK6 := Lib.hid hh6.1; have HO6 := Lib.hid (HO5.out.trans hh6.2); have HHS := Lib.hid (k_hasL HK6.out.rd HJ4.out ⟨#[44]⟩ wComma (by decide) rfl); clear hown' hb6 hgrow hor hbx hh6))
            generalize hasP (ls.drop (j + 1)) wComma = q7' at *
            refine HHS.out.mono ?_
            rintro e w7 ⟨rfl, ho7, hr1, hr0⟩
            have HO7 := Lib.hid (HO6.out.trans (OnlyX.of ho7))
            cases q7' with
            | true =>
              obtain ⟨hi7, hr7⟩ := hr1 (by trivial)
              have HI7 := Lib.hid hi7
              have HK7 := Lib.hid (HK6.out.call hr7 ho7)
              clear hr1 hr0 ho7 HHS hi7 hr7
              go_wp2
              go_roundw
              case rel => exact ⟨true, f', h ++ [nm], j + 1 + 1, _, rfl, by rw [q6]; omega, HK7.out, HI7.out, fun _ => by omega, Lib.hid (by rw [HR5.out]; rfl), HO7.out⟩
              case measure =>
                rw [HK7.out.rd.left, HLF.out]
                have := HI7.out.i
                simp only [qvM]
                omega
            | false =>
              have HK7 := Lib.hid (HK6.out.call (hr0 (by trivial)) ho7)
              clear hr1 hr0 ho7 HHS
              go_wp2
              go_roundw
              case rel => exact ⟨false, f', h ++ [nm], j + 1, _, rfl, by rw [q6]; omega, HK7.out, HJ4.out, (fun e => by cases e), Lib.hid (by rw [HR5.out]; rfl), HO7.out⟩
              case measure =>
                rw [HK7.out.rd.left, HLF.out]
                have := HJ4.out.i
                simp only [qvM]
                omega
        · have HPB : Hid (R = .bad a' y) := Lib.hid (by rw [HRN.out, bind_bad hp])
          have HO4 := Lib.hid (HO3.out.trans (OnlyX.of ho4))
          clear hp ho4 hres HNM HRN
          go_wp2
          exact ⟨rfl, ResX.bad HO4.out HPB.out⟩
    | false =>
      have HRS : Hid (R = (needP (ls.drop j) wShut).bind fun _ r => .ok ⟨h, 0, ⟨#[]⟩, 0⟩ r) := Lib.hid HA.out
      have HKS := HK
      have HJS := HJ
      have HOS := HO
      clear ho hk hj HA
      have HND := Lib.hid (k_needL HKS.out.rd HJS.out ⟨#[41]⟩ wShut (by decide) rfl)
      go_wp2_with fail
      refine HND.out.mono ?_
      intro e w8 hres
      rcases ResP.cases HG.out hres with ⟨u, v, j8, hp, rfl, rfl, hj8, hr8, ho8⟩ | ⟨a', y, hp, rfl, ho8⟩
      · have HK8 := Lib.hid (HKS.out.call hr8 ho8)
        have HO8 := Lib.hid (HOS.out.trans (OnlyX.of ho8))
        have HJ8 := Lib.hid hj8
        have HPE : Hid (R = .ok ⟨h, 0, ⟨#[]⟩, 0⟩ (ls.drop j8)) := Lib.hid (by rw [HRS.out, bind_go hp])
        clear hp hj8 hr8 ho8 hres HND HRS
        go_wp2
        refine bodyPost_ret (results_none rfl _ _ _) rfl ?_
        exact ResX.ok HO8.out HPE.out HJ8.out (by rw [HE0.out]; exact HK8.out)
      · have HPB : Hid (R = .bad a' y) := Lib.hid (by rw [HRS.out, bind_bad hp])
        have HO8 := Lib.hid (HOS.out.trans (OnlyX.of ho8))
        clear hp ho8 hres HND HRS
        go_wp2
        exact ⟨rfl, ResX.bad HO8.out HPB.out⟩
set_option maxRecDepth 100000 in
set_option maxHeartbeats 4000000 in
theorem k_quota {W : World} {g x t base i : Nat} {ls : List Tok} {r : RuP} {hv : Value} (h : KSt W g x t base ls i r hv) (hA : AtI ls i) (hk3 : r.k = 3) (hof : r.ofv = ⟨#[]⟩) :
    Calls Tryz.prog 34 #[.pointer (some ⟨g, 0, none⟩), .pointer (some ⟨x, 0, none⟩)] W (ResX W g x t base ls (upH r) (quP (ls.drop i))) := by
  obtain ⟨R, hR⟩ : ∃ R, quP (ls.drop i) = R := ⟨_, rfl⟩
  have HP : Hid (R = (nameP (ls.drop i)).bind fun nm r => (needP r wComma).bind fun _ r => (aggP 3 r).bind fun x r => (needP r wShut).bind fun _ r => (needP r wLimit).bind fun _ r => (numP r).bind fun n r => .ok ⟨[nm], x.1, x.2, n⟩ r) := Lib.hid (by rw [← hR]; rfl)
  rw [hR]
  have HG := Lib.hid hA.g
  have HS := Lib.hid h
  have HK3 := Lib.hid hk3
  have HOF := Lib.hid hof
  have HNM := Lib.hid (k_name h.rd hA)
  clear h hA hk3 hof hR
  go_enter Tryz.func34, Tryz.ntmps34
  go_wp2_with fail
  refine HNM.out.mono ?_
  intro e w1 hres
  rcases ResP.cases HG.out hres with ⟨nm, v, j1, hp, rfl, rfl, hj1, hr1, ho1⟩ | ⟨a', y, hp, rfl, ho1⟩
  · have hk1 := HS.out.call hr1 ho1
    have hbb := one_new w1 (.cells #[.string nm] 9)
    have hk2 := hk1.below hbb
    have hsz := hk1.sz
    have hown : OwnSt (w1.alloc (.cells #[.string nm] 9)) base (.slice (some ⟨w1.heap.size, 0, none⟩) 1 1) [nm] := ⟨rfl, Or.inr ⟨w1.heap.size, 1, _, rfl, hsz, heap_alloc_new w1 _, Nat.le_refl _, by unfold maxLen; omega, rfl, rfl⟩⟩
    have hh := hk1.head (W2 := w1.alloc (.cells #[.string nm] 9)) ⟨hbb.os, hbb.tape, hbb.output, hbb.size, fun k hk _ => hbb.block k hk⟩ hown
    have HK2 := Lib.hid hh.1
    have HO2 := Lib.hid ((OnlyX.of (x := x) (base := base) ho1).trans hh.2)
    have HJ1 := Lib.hid hj1
    have HP1 : Hid (R = (needP (ls.drop j1) wComma).bind fun _ r => (aggP 3 r).bind fun x r => (needP r wShut).bind fun _ r => (needP r wLimit).bind fun _ r => (numP r).bind fun n r => .ok ⟨[nm], x.1, x.2, n⟩ r) := Lib.hid (by rw [HP.out, bind_go hp])
    obtain ⟨_, _, c2, _, _, _, _⟩ := hk2.bx.cell
    have f2 := hk2.bx.frozen 2
    have HND := Lib.hid (k_needL hh.1.rd hj1 ⟨#[44]⟩ wComma (by decide) rfl)
    clear hp hj1 hr1 ho1 hres HNM HP hk1 hk2 hbb hown hh hsz
    go_wp2_with fail
    refine HND.out.mono ?_
    intro e w3 hres
    rcases ResP.cases HG.out hres with ⟨u, v, j3, hp, rfl, rfl, hj3, hr3, ho3⟩ | ⟨a', y, hp, rfl, ho3⟩
    · have hk3 := HK2.out.call hr3 ho3
      have HO3 := Lib.hid (HO2.out.trans (OnlyX.of ho3))
      have HP3 : Hid (R = (aggP r.k (ls.drop j3)).bind fun x r => (needP r wShut).bind fun _ r => (needP r wLimit).bind fun _ r => (numP r).bind fun n r => .ok ⟨[nm], x.1, x.2, n⟩ r) := Lib.hid (by rw [HP1.out, bind_go hp, HK3.out])
      have HAG := Lib.hid (k_agg hk3 hj3 HOF.out)
      clear hp hj3 hr3 ho3 hres HND HP1 hk3 HK2 HO2 c2 f2
      go_wp2_with fail
      refine HAG.out.mono ?_
      intro e w4 hres
      rcases ResX.cases hres with ⟨⟨za, zo⟩, j4, hv4, hp, rfl, hj4, hk4, ho4⟩ | ⟨a', y, hp, rfl, ho4⟩
      · have HK4 := Lib.hid hk4
        have HO4 := Lib.hid (HO3.out.trans ho4)
        have HP4 : Hid (R = (needP (ls.drop j4) wShut).bind fun _ r => (needP r wLimit).bind fun _ r => (numP r).bind fun n r => .ok ⟨[nm], za, zo, n⟩ r) := Lib.hid (by rw [HP3.out]; exact bind_go hp)
        have HND := Lib.hid (k_needL hk4.rd hj4 ⟨#[41]⟩ wShut (by decide) rfl)
        clear hp hj4 hk4 ho4 hres HAG HP3 HO3
        go_wp2_with fail
        refine HND.out.mono ?_
        intro e w5 hres
        rcases ResP.cases HG.out hres with ⟨u, v, j5, hp, rfl, rfl, hj5, hr5, ho5⟩ | ⟨a', y, hp, rfl, ho5⟩
        · have hk5 := HK4.out.call hr5 ho5
          have HK5 := Lib.hid hk5
          have HO5 := Lib.hid (HO4.out.trans (OnlyX.of ho5))
          have HP5 : Hid (R = (needP (ls.drop j5) wLimit).bind fun _ r => (numP r).bind fun n r => .ok ⟨[nm], za, zo, n⟩ r) := Lib.hid (by rw [HP4.out, bind_go hp])
          have HND := Lib.hid (k_needL hk5.rd hj5 ⟨#[108, 105, 109, 105, 116]⟩ wLimit (by decide) rfl)
          clear hp hj5 hr5 ho5 hres HP4 HK4 HO4 hk5
          go_wp2_with fail
          refine HND.out.mono ?_
          intro e w6 hres
          rcases ResP.cases HG.out hres with ⟨u, v, j6, hp, rfl, rfl, hj6, hr6, ho6⟩ | ⟨a', y, hp, rfl, ho6⟩
          · have hk6 := HK5.out.call hr6 ho6
            have HK6 := Lib.hid hk6
            have HO6 := Lib.hid (HO5.out.trans (OnlyX.of ho6))
            have HP6 : Hid (R = (numP (ls.drop j6)).bind fun n r => .ok ⟨[nm], za, zo, n⟩ r) := Lib.hid (by rw [HP5.out, bind_go hp])
            have HNU := Lib.hid (k_number hk6.rd hj6)
            clear hp hj6 hr6 ho6 hres HP5 HK5 HO5 hk6
            go_wp2_with fail
            refine HNU.out.mono ?_
            intro e w7 hres
            rcases ResP.cases HG.out hres with ⟨n, v, j7, hp, rfl, rfl, hj7, hr7, ho7⟩ | ⟨a', y, hp, rfl, ho7⟩
            · have hk7 := HK6.out.call hr7 ho7
              have HK7 := Lib.hid (hk7.set5 n)
              have HO7 := Lib.hid ((HO6.out.trans (OnlyX.of ho7)).trans (OnlyX.set g x base 5 w7 (.int .i64 n)))
              have HP7 : Hid (R = .ok ⟨[nm], za, zo, n⟩ (ls.drop j7)) := Lib.hid (by rw [HP6.out, bind_go hp])
              have HJ7 := Lib.hid hj7
              obtain ⟨_, _, _, _, _, c5, _⟩ := hk7.bx.cell
              have f5 := hk7.bx.frozen 5
              clear hp hj7 hr7 ho7 hres HP6 HK6 HO6 hk7
              go_wp2
              refine bodyPost_ret (results_none rfl _ _ _) rfl ?_
              exact ResX.ok HO7.out HP7.out HJ7.out HK7.out
            · have HPB : Hid (R = .bad a' y) := Lib.hid (by rw [HP6.out, bind_bad hp])
              have HO7 := Lib.hid (HO6.out.trans (OnlyX.of ho7))
              clear hp ho7 hres HNU HP6
              go_wp2
              exact ⟨rfl, ResX.bad HO7.out HPB.out⟩
          · have HPB : Hid (R = .bad a' y) := Lib.hid (by rw [HP5.out, bind_bad hp])
            have HO6 := Lib.hid (HO5.out.trans (OnlyX.of ho6))
            clear hp ho6 hres HND HP5
            go_wp2
            exact ⟨rfl, ResX.bad HO6.out HPB.out⟩
        · have HPB : Hid (R = .bad a' y) := Lib.hid (by rw [HP4.out, bind_bad hp])
          have HO5 := Lib.hid (HO4.out.trans (OnlyX.of ho5))
          clear hp ho5 hres HND HP4
          go_wp2
          exact ⟨rfl, ResX.bad HO5.out HPB.out⟩
      · have HPB : Hid (R = .bad a' y) := Lib.hid (by rw [HP3.out]; exact bind_bad hp)
        have HO4 := Lib.hid (HO3.out.trans ho4)
        clear hp ho4 hres HAG HP3
        go_wp2
        exact ⟨rfl, ResX.bad HO4.out HPB.out⟩
    · have HPB : Hid (R = .bad a' y) := Lib.hid (by rw [HP1.out, bind_bad hp])
      have HO3 := Lib.hid (HO2.out.trans (OnlyX.of ho3))
      clear hp ho3 hres HND HP1
      go_wp2
      exact ⟨rfl, ResX.bad HO3.out HPB.out⟩
  · have HPB : Hid (R = .bad a' y) := Lib.hid (by rw [HP.out, bind_bad hp])
    have HO1 := Lib.hid (OnlyX.of (x := x) (base := base) ho1)
    clear hp ho1 hres HNM HP
    go_wp2
    exact ⟨rfl, ResX.bad HO1.out HPB.out⟩
end Go.Proofs.YtkobfngnnblpeaaGreatDoor
