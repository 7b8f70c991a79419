
/-
  Stage 10: the document's Of.
-/
import Derived.Test.YtnapeckpjnbcgaaDca
import Derived.Test.YtnapeckpjnbcgaaEh
namespace Go.Proofs.Ytnapeckpjnbcgaa
open Go.RowKit

set_option maxRecDepth 100000

/-- All texts of a list: each once, rising. -/
def ofT (l : List (List UInt8)) : List (List UInt8) := setG Op.bytesLess l
/-- Behind a list laid in new memory. -/
def Texts10 (w : World) (l : List (List UInt8)) (e : Ending) (w' : World) : Prop := ∃ v, e = .returned v ∧ RdE ET10 w' v l ∧ Turn (fun _ => False) w w'

set_option maxHeartbeats 8000000 in
theorem ref_of10 (v : Value) (l : List (List UInt8)) (w : World) (hv : RdE ET10 w v l) (hl : l.length ≤ 1000) : Calls Try.prog 9 #[v] w fun e w' => Texts10 w (ofT l) e w' := by
  have HV := Lib.hid hv
  obtain ⟨A, c, rfl⟩ := hv.shape
  clear hv
  have HN0 : Hid (RdE ET10 w (.slice none 0 0) (ofT (l.take 0)) ∧ Turn (fun _ => False) w w) := ⟨RdE.nil w, Turn.refl _ w⟩
  have hE : ∀ W, (Instr.buildSlice 22 0 #[]).run Try.prog W = .ok (.slice (some ⟨W.heap.size, 0, none⟩) 0 0) (W.alloc (.cells #[] 9)) := fun W => by go_simp
  have hX : ∀ (h : List UInt8) W, (Instr.buildSlice 22 1 #[(0, sv10 h)]).run Try.prog W = .ok (.slice (some ⟨W.heap.size, 0, none⟩) 1 1) (W.alloc (.cells (ET10.enc h).toArray 9)) := fun h W => by go_simp; rfl
  have HE := Lib.hid hE
  have HX := Lib.hid hX
  have hz : (Try.prog.info? 9).map (·.size) = some ET10.sz := by kernel_rfl
  have HZ := Lib.hid hz
  clear hE hX hz
  go_enter Try.func9, Try.ntmps9
  go_wp2_with fail
  go_loopw [3, 4] (fun x3 x4 wr => ∃ i : Nat, x4 = .int .i64 (i : Int) ∧ i ≤ l.length ∧ RdE ET10 wr x3 (ofT (l.take i)) ∧ Turn (fun _ => False) w wr) (fun _ x4 _ => l.length - (intOf x4).toNat)
  case atStart => exact ⟨0, rfl, Nat.zero_le _, HN0.out⟩
  case round =>
    obtain ⟨i, rfl, hi, hm, ht⟩ := hrel
    have HM := Lib.hid hm
    have HT := Lib.hid ht
    have hln : (ofT (l.take i)).length ≤ i := setG_len _ l i
    by_cases hlt : i < l.length
    · obtain ⟨h, hf⟩ : ∃ h, l[i]? = some h := ⟨_, List.getElem?_eq_getElem hlt⟩
      obtain ⟨ad, rfl, hc⟩ := str_at10 HV.out hf
      have HC := Lib.hid hc
      have hil : (i : Int) < l.length := by omega
      have HTK : Hid (ofT (l.take (i + 1)) = insG Op.bytesLess h (ofT (l.take i))) := setG_take _ hf
      generalize hO : ofT (l.take i) = O at *
      obtain ⟨B, d, hv⟩ := hm.shape
      subst hv
      have hfit := hm.fits
      have hp1 : Hid (∀ i y, O[i]? = some y → i < posG Op.bytesLess h O → Op.bytesLess y h = true) := posG_at _ h O
      have hp2 : Hid (∀ y, O[posG Op.bytesLess h O]? = some y → Op.bytesLess y h = false) := posG_end _ h O
      have hple := posG_le Op.bytesLess h O
      have HIN : Hid (insG Op.bytesLess h O = if O[posG Op.bytesLess h O]? = some h then O else O.take (posG Op.bytesLess h O) ++ h :: O.drop (posG Op.bytesLess h O)) := rfl
      generalize hP : posG Op.bytesLess h O = p at *
      have HT0 := Lib.hid ht
      clear hc hf hm ht hO hP
      obtain ⟨wo, hwo⟩ : ∃ wo, wo = wr := ⟨_, rfl⟩
      subst hwo
      go_wp2_with fail
      go_loopw [5] (fun x5 wk => Turn (fun _ => False) wo wk ∧ ∃ k : Nat, x5 = .int .i64 (k : Int) ∧ k ≤ p) (fun x5 _ => p - (intOf x5).toNat)
      case atStart => exact ⟨Turn.refl _ _, 0, rfl, Nat.zero_le _⟩
      case round =>
        obtain ⟨htk, k, rfl, hk⟩ := hrel
        have HTW := Lib.hid htk
        have HMW := Lib.hid (HM.out.later htk)
        have c0 := HC.out wr (HT0.out.trans htk (fun _ _ f => f))
        unfold sv10 at c0
        clear htk
        by_cases hkp : k < p
        · obtain ⟨y, hy⟩ : ∃ y, O[k]? = some y := ⟨_, List.getElem?_eq_getElem (by omega)⟩
          obtain ⟨bd, rfl, hc⟩ := str_at10 HMW.out hy
          have e1 := hc _ (Turn.refl _ _)
          unfold sv10 at e1
          have hyh := hp1.out k y hy hkp
          have hkO : (k : Int) < O.length := by omega
          clear hc hy
          go_wp2_with fail
          go_quiet (fail)
          go_wp2
          go_roundw
          case rel => exact ⟨HTW.out.drewN _, k + 1, by go_num, hkp⟩
          case measure => simp [intOf]; omega
        · obtain rfl : k = p := by omega
          have hkc : k ≤ d := by omega
          by_cases hpl : k < O.length
          · obtain ⟨y, hy⟩ : ∃ y, O[k]? = some y := ⟨_, List.getElem?_eq_getElem hpl⟩
            obtain ⟨bd, rfl, hc⟩ := str_at10 HMW.out hy
            have e1 := hc _ (Turn.refl _ _)
            unfold sv10 at e1
            have hyh := hp2.out y hy
            have hkO : (k : Int) < O.length := by omega
            have hke : ((k : Int) == (O.length : Int)) = false := by simp; omega
            clear hc
            by_cases hyy : y = h
            · have HR3 : Hid (RdE ET10 wo (.slice (some bd) O.length d) (ofT (l.take (i + 1)))) := by rw [HTK.out, HIN.out, if_pos (by rw [hy, hyy])]; exact HM.out
              clear hy
              subst hyy
              have hee : (y == y) = true := beq_self_eq_true y
              go_wp2_with fail
              go_quiet (fail)
              go_wp2_with fail
              go_quiet (fail)
              go_wp2
              go_roundw
              case rel => exact ⟨i + 1, by go_num, hlt, HR3.out.later (HTW.out.drewN _), (HT0.out.trans HTW.out (fun _ _ f => f)).drewN _⟩
              case measure => simp [intOf]; omega
            · have HNE : Hid (¬ O[k]? = some h) := by rw [hy]; exact fun e => hyy (Option.some.inj e)
              have hyb : (y == h) = false := by simpa using hyy
              clear hy hyy
              obtain ⟨B, hB⟩ : ∃ B, B = some bd := ⟨_, rfl⟩
              rw [← hB] at HM HMW ⊢
              go_wp2_with fail
              go_quiet (fail)
              obtain ⟨q1, hq1⟩ : ∃ q1, q1 = nq := ⟨_, rfl⟩
              subst hq1
              go_wp2_with fail
              go_quiet (fail)
              go_wp2_with fail
              refine drawn_region (fun W => Turn (fun _ => False) wo W) [] (by kernel_rfl) ?_
              have ht0 : Turn (fun _ => False) wo (World.drew ((wr.drewN q1).drewN nq)) := ((HTW.out.drewN _).drewN _).drew
              generalize World.drew ((wr.drewN q1).drewN nq) = wd at *
              have hS0 := ht0
              clear ht0
              refine drawn_take 1 45 (.slice B O.length d) rfl rfl (by kernel_rfl) (by kernel_rfl) (by kernel_rfl) (by kernel_rfl) (fun _ _ _ h => h) (by rfl) (by assumption) (by intro w hSw; obtain hS1 := hSw; go_simp) ?_
              try simp only [List.setIfInBounds_toArray, List.set_cons_zero, List.set_cons_succ]
              refine drawn_take 2 46 (.int .i64 (k : Int)) rfl rfl (by kernel_rfl) (by kernel_rfl) (by kernel_rfl) (by kernel_rfl) (fun _ _ _ h => h) (by rfl) (by assumption) (by intro w hSw; obtain hS1 := hSw; go_simp) ?_
              try simp only [List.setIfInBounds_toArray, List.set_cons_zero, List.set_cons_succ]
              refine drawn_take 3 47 (.slice B k d) rfl rfl (by kernel_rfl) (by kernel_rfl) (by kernel_rfl) (by kernel_rfl) (fun _ _ _ h => h) (by rfl) (by assumption) (fun w _ => exec_front (E := ET10) rfl rfl rfl Try.underlying22 HZ.out hkc w) ?_
              try simp only [List.setIfInBounds_toArray, List.set_cons_zero, List.set_cons_succ]
              refine drawn_take 5 49 (.slice (some ad) l.length c) rfl rfl (by kernel_rfl) (by kernel_rfl) (by kernel_rfl) (by kernel_rfl) (fun _ _ _ h => h) (by rfl) (by assumption) (by intro w hSw; obtain hS1 := hSw; go_simp) ?_
              try simp only [List.setIfInBounds_toArray, List.set_cons_zero, List.set_cons_succ]
              refine drawn_take 6 50 (.int .i64 (i : Int)) rfl rfl (by kernel_rfl) (by kernel_rfl) (by kernel_rfl) (by kernel_rfl) (fun _ _ _ h => h) (by rfl) (by assumption) (by intro w hSw; obtain hS1 := hSw; go_simp) ?_
              try simp only [List.setIfInBounds_toArray, List.set_cons_zero, List.set_cons_succ]
              refine drawn_take 7 51 (.pointer (some (ad.add i))) rfl rfl (by kernel_rfl) (by kernel_rfl) (by kernel_rfl) (by kernel_rfl) (fun _ _ _ h => h) (by rfl) (by assumption) (by intro w hSw; obtain hS1 := hSw; go_simp) ?_
              try simp only [List.setIfInBounds_toArray, List.set_cons_zero, List.set_cons_succ]
              refine drawn_take 8 52 (sv10 h) rfl rfl (by kernel_rfl) (by kernel_rfl) (by kernel_rfl) (by kernel_rfl) (fun _ _ _ h => h) (by rfl) (by assumption) (by intro w hSw; have c1 := HC.out w (HT0.out.trans hSw (fun _ _ f => f)); unfold sv10 at c1; go_simp) ?_
              try simp only [List.setIfInBounds_toArray, List.set_cons_zero, List.set_cons_succ]
              refine drawn_take 11 55 (.slice B O.length d) rfl rfl (by kernel_rfl) (by kernel_rfl) (by kernel_rfl) (by kernel_rfl) (fun _ _ _ h => h) (by rfl) (by assumption) (by intro w hSw; obtain hS1 := hSw; go_simp) ?_
              try simp only [List.setIfInBounds_toArray, List.set_cons_zero, List.set_cons_succ]
              refine drawn_take 12 56 (.int .i64 (k : Int)) rfl rfl (by kernel_rfl) (by kernel_rfl) (by kernel_rfl) (by kernel_rfl) (fun _ _ _ h => h) (by rfl) (by assumption) (by intro w hSw; obtain hS1 := hSw; go_simp) ?_
              try simp only [List.setIfInBounds_toArray, List.set_cons_zero, List.set_cons_succ]
              refine drawn_take 13 57 (tailV ET10 B O.length d k) rfl rfl (by kernel_rfl) (by kernel_rfl) (by kernel_rfl) (by kernel_rfl) (fun _ _ _ h => h) (by rfl) (by assumption) (fun w _ => exec_tail (E := ET10) rfl rfl rfl Try.underlying22 HZ.out hple w) ?_
              try simp only [List.setIfInBounds_toArray, List.set_cons_zero, List.set_cons_succ]
              refine drawn_ins (E := ET10) (l1 := O.take k) (l3 := O.drop k) (x := h) Try.underlying22 str_info10 str_zero10 (by omega) (fun W h => h) 0 4 9 10 14 44 48 53 54 58 47 52 57 rfl rfl rfl rfl rfl rfl rfl rfl rfl rfl rfl rfl rfl rfl rfl rfl rfl rfl rfl rfl
                (by kernel_rfl) (by kernel_rfl) (by kernel_rfl) (by kernel_rfl) (by kernel_rfl) (by kernel_rfl) (by kernel_rfl) (by simp) rfl rfl rfl (fun W ht => (HM.out.later ht).front k hple) (fun W ht => rd_tailV (HM.out.later ht) hple) (by simp; omega) HE.out (HX.out h) hS0 ?_
              intro W v a b c d hn
              try simp only [List.setIfInBounds_toArray, List.set_cons_zero, List.set_cons_succ]
              refine drawn_last1 15 3 v rfl rfl (by kernel_rfl) (by kernel_rfl) (by rfl) (by intro w; go_simp) hn.turn ?_
              try simp only [List.setIfInBounds_toArray, List.set_cons_zero, List.set_cons_succ]
              have HR3 : Hid (RdE ET10 W v (ofT (l.take (i + 1))) ∧ Turn (fun _ => False) w W) := ⟨by rw [HTK.out, HIN.out, if_neg HNE.out]; exact hn.own.rd, HT0.out.trans hn.turn (fun _ _ f => f)⟩
              clear hn hS0
              go_wp2
              go_roundw
              case rel => exact ⟨i + 1, by go_num, hlt, HR3.out⟩
              case measure => simp [intOf]; omega
          · have hkO : ¬ ((k : Int) < O.length) := by omega
            have HNE : Hid (¬ O[k]? = some h) := by rw [List.getElem?_eq_none (by omega)]; exact fun e => by cases e
            have hke : ((k : Int) == (O.length : Int)) = true := by simp; omega
            have hkl : k = O.length := by omega
            go_wp2_with fail
            go_quiet (fail)
            obtain ⟨q1, hq1⟩ : ∃ q1, q1 = nq := ⟨_, rfl⟩
            subst hq1
            go_wp2_with fail
            go_quiet (fail)
            go_wp2_with fail
            refine drawn_region (fun W => Turn (fun _ => False) wo W) [] (by kernel_rfl) ?_
            have ht0 : Turn (fun _ => False) wo (World.drew ((wr.drewN q1).drewN nq)) := ((HTW.out.drewN _).drewN _).drew
            generalize World.drew ((wr.drewN q1).drewN nq) = wd at *
            have hS0 := ht0
            clear ht0
            refine drawn_take 1 45 (.slice B O.length d) rfl rfl (by kernel_rfl) (by kernel_rfl) (by kernel_rfl) (by kernel_rfl) (fun _ _ _ h => h) (by rfl) (by assumption) (by intro w hSw; obtain hS1 := hSw; go_simp) ?_
            try simp only [List.setIfInBounds_toArray, List.set_cons_zero, List.set_cons_succ]
            refine drawn_take 2 46 (.int .i64 (k : Int)) rfl rfl (by kernel_rfl) (by kernel_rfl) (by kernel_rfl) (by kernel_rfl) (fun _ _ _ h => h) (by rfl) (by assumption) (by intro w hSw; obtain hS1 := hSw; go_simp) ?_
            try simp only [List.setIfInBounds_toArray, List.set_cons_zero, List.set_cons_succ]
            refine drawn_take 3 47 (.slice B k d) rfl rfl (by kernel_rfl) (by kernel_rfl) (by kernel_rfl) (by kernel_rfl) (fun _ _ _ h => h) (by rfl) (by assumption) (fun w _ => exec_front (E := ET10) rfl rfl rfl Try.underlying22 HZ.out hkc w) ?_
            try simp only [List.setIfInBounds_toArray, List.set_cons_zero, List.set_cons_succ]
            refine drawn_take 5 49 (.slice (some ad) l.length c) rfl rfl (by kernel_rfl) (by kernel_rfl) (by kernel_rfl) (by kernel_rfl) (fun _ _ _ h => h) (by rfl) (by assumption) (by intro w hSw; obtain hS1 := hSw; go_simp) ?_
            try simp only [List.setIfInBounds_toArray, List.set_cons_zero, List.set_cons_succ]
            refine drawn_take 6 50 (.int .i64 (i : Int)) rfl rfl (by kernel_rfl) (by kernel_rfl) (by kernel_rfl) (by kernel_rfl) (fun _ _ _ h => h) (by rfl) (by assumption) (by intro w hSw; obtain hS1 := hSw; go_simp) ?_
            try simp only [List.setIfInBounds_toArray, List.set_cons_zero, List.set_cons_succ]
            refine drawn_take 7 51 (.pointer (some (ad.add i))) rfl rfl (by kernel_rfl) (by kernel_rfl) (by kernel_rfl) (by kernel_rfl) (fun _ _ _ h => h) (by rfl) (by assumption) (by intro w hSw; obtain hS1 := hSw; go_simp) ?_
            try simp only [List.setIfInBounds_toArray, List.set_cons_zero, List.set_cons_succ]
            refine drawn_take 8 52 (sv10 h) rfl rfl (by kernel_rfl) (by kernel_rfl) (by kernel_rfl) (by kernel_rfl) (fun _ _ _ h => h) (by rfl) (by assumption) (by intro w hSw; have c1 := HC.out w (HT0.out.trans hSw (fun _ _ f => f)); unfold sv10 at c1; go_simp) ?_
            try simp only [List.setIfInBounds_toArray, List.set_cons_zero, List.set_cons_succ]
            refine drawn_take 11 55 (.slice B O.length d) rfl rfl (by kernel_rfl) (by kernel_rfl) (by kernel_rfl) (by kernel_rfl) (fun _ _ _ h => h) (by rfl) (by assumption) (by intro w hSw; obtain hS1 := hSw; go_simp) ?_
            try simp only [List.setIfInBounds_toArray, List.set_cons_zero, List.set_cons_succ]
            refine drawn_take 12 56 (.int .i64 (k : Int)) rfl rfl (by kernel_rfl) (by kernel_rfl) (by kernel_rfl) (by kernel_rfl) (fun _ _ _ h => h) (by rfl) (by assumption) (by intro w hSw; obtain hS1 := hSw; go_simp) ?_
            try simp only [List.setIfInBounds_toArray, List.set_cons_zero, List.set_cons_succ]
            refine drawn_take 13 57 (tailV ET10 B O.length d k) rfl rfl (by kernel_rfl) (by kernel_rfl) (by kernel_rfl) (by kernel_rfl) (fun _ _ _ h => h) (by rfl) (by assumption) (fun w _ => exec_tail (E := ET10) rfl rfl rfl Try.underlying22 HZ.out hple w) ?_
            try simp only [List.setIfInBounds_toArray, List.set_cons_zero, List.set_cons_succ]
            refine drawn_ins (E := ET10) (l1 := O.take k) (l3 := O.drop k) (x := h) Try.underlying22 str_info10 str_zero10 (by omega) (fun W h => h) 0 4 9 10 14 44 48 53 54 58 47 52 57 rfl rfl rfl rfl rfl rfl rfl rfl rfl rfl rfl rfl rfl rfl rfl rfl rfl rfl rfl rfl
              (by kernel_rfl) (by kernel_rfl) (by kernel_rfl) (by kernel_rfl) (by kernel_rfl) (by kernel_rfl) (by kernel_rfl) (by simp) rfl rfl rfl (fun W ht => (HM.out.later ht).front k hple) (fun W ht => rd_tailV (HM.out.later ht) hple) (by simp; omega) HE.out (HX.out h) hS0 ?_
            intro W v a b c d hn
            try simp only [List.setIfInBounds_toArray, List.set_cons_zero, List.set_cons_succ]
            refine drawn_last1 15 3 v rfl rfl (by kernel_rfl) (by kernel_rfl) (by rfl) (by intro w; go_simp) hn.turn ?_
            try simp only [List.setIfInBounds_toArray, List.set_cons_zero, List.set_cons_succ]
            have HR3 : Hid (RdE ET10 W v (ofT (l.take (i + 1))) ∧ Turn (fun _ => False) w W) := ⟨by rw [HTK.out, HIN.out, if_neg HNE.out]; exact hn.own.rd, HT0.out.trans hn.turn (fun _ _ f => f)⟩
            clear hn hS0
            go_wp2
            go_roundw
            case rel => exact ⟨i + 1, by go_num, hlt, HR3.out⟩
            case measure => simp [intOf]; omega
    · obtain rfl : i = l.length := by omega
      have HM2 := HM.out
      rw [List.take_length] at HM2
      go_wp2
      go_ret
      exact ⟨_, rfl, HM2, HT.out⟩

end Go.Proofs.Ytnapeckpjnbcgaa
