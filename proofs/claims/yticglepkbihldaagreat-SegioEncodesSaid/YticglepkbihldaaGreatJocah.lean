/-
  Texts laid one behind the other: Dcb Aa Ek Emr Eu Dcn Es Dpm.
-/
import Derived.Test.YticglepkbihldaaGreatJocag
import Derived.Test.YticglepkbihldaaGreatJocac
import Derived.Test.YticglepkbihldaaGreatJocab
import Derived.Test.YticglepkbihldaaGreatJocaa
import Derived.Sort.Grow
import Derived.Test.YticglepkbihldaaGreatJocaf
import Derived.Test.YticglepkbihldaaGreatJocae
import Derived.Shelf.GgSortFunc.InsertionK
import Derived.Lib.SlicesCompact
import Derived.Laws.OwnMore

/-
  Stage 10: the document's Of.
-/
namespace Go.Proofs.YticglepkbihldaaGreat
open Go.RowKit

set_option maxRecDepth 100000

/-- All texts of a list: each once, rising. -/
def ofT (l : List (List UInt8)) : List (List UInt8) := setG Op.bytesLess l
/-- Behind a list laid in new memory. -/
def Texts10 (w : World) (l : List (List UInt8)) (e : Ending) (w' : World) : Prop := ∃ v, e = .returned v ∧ RdE ET10 w' v l ∧ Turn (fun _ => False) w w'

/-- The same, in a row of texts. -/
def Typ10 (w : World) (v : Value) : Prop := ∀ k, v.ownBlock = some k → ∃ cs, Box w k 9 cs
theorem Typ10.later {w w' : World} {v : Value} (h : Typ10 w v) (ht : Turn (fun _ => False) w w') : Typ10 w' v := fun k hk => (h k hk).imp fun _ hc => hc.turn ht (fun f => f)
theorem Typ10.own {w : World} {v : Value} {l : List (List UInt8)} (h : OwE ET10 9 w v l) : Typ10 w v := fun k hk => by
  rcases h.form with ⟨e1, _⟩ | ⟨g', cap, cur, e1, hb', _⟩
  · rw [e1] at hk; cases hk
  · rw [e1] at hk
    simp only [Value.ownBlock, Option.some.injEq] at hk
    subst hk
    exact ⟨_, hb'⟩
def TextsT10 (w : World) (l : List (List UInt8)) (e : Ending) (w' : World) : Prop := ∃ v, e = .returned v ∧ RdE ET10 w' v l ∧ Turn (fun _ => False) w w' ∧ Typ10 w' v
set_option maxHeartbeats 8000000 in
theorem ref_of_typ10 (v : Value) (l : List (List UInt8)) (w : World) (hv : RdE ET10 w v l) (hl : l.length ≤ 20000) : Calls Tryz.prog 27 #[v] w fun e w' => TextsT10 w (ofT l) e w' := by
  have HV := Lib.hid hv
  obtain ⟨A, c, rfl⟩ := hv.shape
  clear hv
  have HN0 : Hid (RdE ET10 w (.slice none 0 0) (ofT (l.take 0)) ∧ Turn (fun _ => False) w w ∧ Typ10 w (.slice none 0 0)) := ⟨RdE.nil w, Turn.refl _ w, fun k hk => by cases hk⟩
  have hE : ∀ W, (Instr.buildSlice 31 0 #[]).run Tryz.prog W = .ok (.slice (some ⟨W.heap.size, 0, none⟩) 0 0) (W.alloc (.cells #[] 9)) := fun W => by go_simp
  have hX : ∀ (h : List UInt8) W, (Instr.buildSlice 31 1 #[(0, sv10 h)]).run Tryz.prog W = .ok (.slice (some ⟨W.heap.size, 0, none⟩) 1 1) (W.alloc (.cells (ET10.enc h).toArray 9)) := fun h W => by go_simp; rfl
  have HE := Lib.hid hE
  have HX := Lib.hid hX
  have hz : (Tryz.prog.info? 9).map (·.size) = some ET10.sz := by kernel_rfl
  have HZ := Lib.hid hz
  clear hE hX hz
  go_enter Tryz.func27, Tryz.ntmps27
  go_wp2_with fail
  go_loopw [3, 4] (fun x3 x4 wr => ∃ i : Nat, x4 = .int .i64 (i : Int) ∧ i ≤ l.length ∧ RdE ET10 wr x3 (ofT (l.take i)) ∧ Turn (fun _ => False) w wr ∧ Typ10 wr x3) (fun _ x4 _ => l.length - (intOf x4).toNat)
  case atStart => exact ⟨0, rfl, Nat.zero_le _, HN0.out⟩
  case round =>
    obtain ⟨i, rfl, hi, hm, ht, hty⟩ := hrel
    have HTY := Lib.hid hty
    clear hty
    have HM := Lib.hid hm
    have HT := Lib.hid ht
    have hln : (ofT (l.take i)).length ≤ i := setG_len _ l i
    by_cases hlt : i < l.length
    · obtain ⟨h, hf⟩ : ∃ h, l[i]? = some h := ⟨_, List.getElem?_eq_getElem hlt⟩
      obtain ⟨ad, rfl, hc⟩ := str_at10 HV.out hf
      have HC := Lib.hid hc
      have hil : (i : Int) < l.length := by omega
      have HTK : Hid (ofT (l.take (i + 1)) = insG Op.bytesLess h (ofT (l.take i))) := setG_take _ hf
      generalize hO : ofT (l.take i) = O at *
      obtain ⟨B, d, hv⟩ := hm.shape
      subst hv
      have hfit := hm.fits
      have hp1 : Hid (∀ i y, O[i]? = some y → i < posG Op.bytesLess h O → Op.bytesLess y h = true) := posG_at _ h O
      have hp2 : Hid (∀ y, O[posG Op.bytesLess h O]? = some y → Op.bytesLess y h = false) := posG_end _ h O
      have hple := posG_le Op.bytesLess h O
      have HIN : Hid (insG Op.bytesLess h O = if O[posG Op.bytesLess h O]? = some h then O else O.take (posG Op.bytesLess h O) ++ h :: O.drop (posG Op.bytesLess h O)) := rfl
      generalize hP : posG Op.bytesLess h O = p at *
      have HT0 := Lib.hid ht
      clear hc hf hm ht hO hP
      obtain ⟨wo, hwo⟩ : ∃ wo, wo = wr := ⟨_, rfl⟩
      subst hwo
      go_wp2_with fail
      go_loopw [5] (fun x5 wk => Turn (fun _ => False) wo wk ∧ ∃ k : Nat, x5 = .int .i64 (k : Int) ∧ k ≤ p) (fun x5 _ => p - (intOf x5).toNat)
      case atStart => exact ⟨Turn.refl _ _, 0, rfl, Nat.zero_le _⟩
      case round =>
        obtain ⟨htk, k, rfl, hk⟩ := hrel
        have HTW := Lib.hid htk
        have HMW := Lib.hid (HM.out.later htk)
        have c0 := HC.out wr (HT0.out.trans htk (fun _ _ f => f))
        unfold sv10 at c0
        clear htk
        by_cases hkp : k < p
        · obtain ⟨y, hy⟩ : ∃ y, O[k]? = some y := ⟨_, List.getElem?_eq_getElem (by omega)⟩
          obtain ⟨bd, rfl, hc⟩ := str_at10 HMW.out hy
          have e1 := hc _ (Turn.refl _ _)
          unfold sv10 at e1
          have hyh := hp1.out k y hy hkp
          have hkO : (k : Int) < O.length := by omega
          clear hc hy
          go_wp2_with fail
          go_quiet (fail)
          go_wp2
          go_roundw
          case rel => exact ⟨HTW.out.drewN _, k + 1, by go_num, hkp⟩
          case measure => simp [intOf]; omega
        · obtain rfl : k = p := by omega
          have hkc : k ≤ d := by omega
          by_cases hpl : k < O.length
          · obtain ⟨y, hy⟩ : ∃ y, O[k]? = some y := ⟨_, List.getElem?_eq_getElem hpl⟩
            obtain ⟨bd, rfl, hc⟩ := str_at10 HMW.out hy
            have e1 := hc _ (Turn.refl _ _)
            unfold sv10 at e1
            have hyh := hp2.out y hy
            have hkO : (k : Int) < O.length := by omega
            have hke : ((k : Int) == (O.length : Int)) = false := by simp; omega
            clear hc
            by_cases hyy : y = h
            · have HR3 : Hid (RdE ET10 wo (.slice (some bd) O.length d) (ofT (l.take (i + 1)))) := by rw [HTK.out, HIN.out, if_pos (by rw [hy, hyy])]; exact HM.out
              clear hy
              subst hyy
              have hee : (y == y) = true := beq_self_eq_true y
              go_wp2_with fail
              go_quiet (fail)
              go_wp2_with fail
              go_quiet (fail)
              go_wp2
              go_roundw
              case rel => exact ⟨i + 1, by go_num, hlt, HR3.out.later (HTW.out.drewN _), (HT0.out.trans HTW.out (fun _ _ f => f)).drewN _, HTY.out.later (HTW.out.drewN _)⟩
              case measure => simp [intOf]; omega
            · have HNE : Hid (¬ O[k]? = some h) := by rw [hy]; exact fun e => hyy (Option.some.inj e)
              have hyb : (y == h) = false := by simpa using hyy
              clear hy hyy
              obtain ⟨B, hB⟩ : ∃ B, B = some bd := ⟨_, rfl⟩
              rw [← hB] at HM HMW ⊢
              go_wp2_with fail
              go_quiet (fail)
              obtain ⟨q1, hq1⟩ : ∃ q1, q1 = nq := ⟨_, rfl⟩
              subst hq1
              go_wp2_with fail
              go_quiet (fail)
              go_wp2_with fail
              refine drawn_region (fun W => Turn (fun _ => False) wo W) [] (by kernel_rfl) ?_
              have ht0 : Turn (fun _ => False) wo (World.drew ((wr.drewN q1).drewN nq)) := ((HTW.out.drewN _).drewN _).drew
              generalize World.drew ((wr.drewN q1).drewN nq) = wd at *
              have hS0 := ht0
              clear ht0
              refine drawn_take 1 45 (.slice B O.length d) rfl rfl (by kernel_rfl) (by kernel_rfl) (by kernel_rfl) (by kernel_rfl) (fun _ _ _ h => h) (by rfl) (by assumption) (by intro w hSw; obtain hS1 := hSw; go_simp) ?_
              try simp only [List.setIfInBounds_toArray, List.set_cons_zero, List.set_cons_succ]
              refine drawn_take 2 46 (.int .i64 (k : Int)) rfl rfl (by kernel_rfl) (by kernel_rfl) (by kernel_rfl) (by kernel_rfl) (fun _ _ _ h => h) (by rfl) (by assumption) (by intro w hSw; obtain hS1 := hSw; go_simp) ?_
              try simp only [List.setIfInBounds_toArray, List.set_cons_zero, List.set_cons_succ]
              refine drawn_take 3 47 (.slice B k d) rfl rfl (by kernel_rfl) (by kernel_rfl) (by kernel_rfl) (by kernel_rfl) (fun _ _ _ h => h) (by rfl) (by assumption) (fun w _ => exec_front (E := ET10) rfl rfl rfl Tryz.underlying31 HZ.out hkc w) ?_
              try simp only [List.setIfInBounds_toArray, List.set_cons_zero, List.set_cons_succ]
              refine drawn_take 5 49 (.slice (some ad) l.length c) rfl rfl (by kernel_rfl) (by kernel_rfl) (by kernel_rfl) (by kernel_rfl) (fun _ _ _ h => h) (by rfl) (by assumption) (by intro w hSw; obtain hS1 := hSw; go_simp) ?_
              try simp only [List.setIfInBounds_toArray, List.set_cons_zero, List.set_cons_succ]
              refine drawn_take 6 50 (.int .i64 (i : Int)) rfl rfl (by kernel_rfl) (by kernel_rfl) (by kernel_rfl) (by kernel_rfl) (fun _ _ _ h => h) (by rfl) (by assumption) (by intro w hSw; obtain hS1 := hSw; go_simp) ?_
              try simp only [List.setIfInBounds_toArray, List.set_cons_zero, List.set_cons_succ]
              refine drawn_take 7 51 (.pointer (some (ad.add i))) rfl rfl (by kernel_rfl) (by kernel_rfl) (by kernel_rfl) (by kernel_rfl) (fun _ _ _ h => h) (by rfl) (by assumption) (by intro w hSw; obtain hS1 := hSw; go_simp) ?_
              try simp only [List.setIfInBounds_toArray, List.set_cons_zero, List.set_cons_succ]
              refine drawn_take 8 52 (sv10 h) rfl rfl (by kernel_rfl) (by kernel_rfl) (by kernel_rfl) (by kernel_rfl) (fun _ _ _ h => h) (by rfl) (by assumption) (by intro w hSw; have c1 := HC.out w (HT0.out.trans hSw (fun _ _ f => f)); unfold sv10 at c1; go_simp) ?_
              try simp only [List.setIfInBounds_toArray, List.set_cons_zero, List.set_cons_succ]
              refine drawn_take 11 55 (.slice B O.length d) rfl rfl (by kernel_rfl) (by kernel_rfl) (by kernel_rfl) (by kernel_rfl) (fun _ _ _ h => h) (by rfl) (by assumption) (by intro w hSw; obtain hS1 := hSw; go_simp) ?_
              try simp only [List.setIfInBounds_toArray, List.set_cons_zero, List.set_cons_succ]
              refine drawn_take 12 56 (.int .i64 (k : Int)) rfl rfl (by kernel_rfl) (by kernel_rfl) (by kernel_rfl) (by kernel_rfl) (fun _ _ _ h => h) (by rfl) (by assumption) (by intro w hSw; obtain hS1 := hSw; go_simp) ?_
              try simp only [List.setIfInBounds_toArray, List.set_cons_zero, List.set_cons_succ]
              refine drawn_take 13 57 (tailV ET10 B O.length d k) rfl rfl (by kernel_rfl) (by kernel_rfl) (by kernel_rfl) (by kernel_rfl) (fun _ _ _ h => h) (by rfl) (by assumption) (fun w _ => exec_tail (E := ET10) rfl rfl rfl Tryz.underlying31 HZ.out hple w) ?_
              try simp only [List.setIfInBounds_toArray, List.set_cons_zero, List.set_cons_succ]
              refine drawn_ins (E := ET10) (l1 := O.take k) (l3 := O.drop k) (x := h) Tryz.underlying31 str_info10 str_zero10 (by omega) (fun W h => h) 0 4 9 10 14 44 48 53 54 58 47 52 57 rfl rfl rfl rfl rfl rfl rfl rfl rfl rfl rfl rfl rfl rfl rfl rfl rfl rfl rfl rfl
                (by kernel_rfl) (by kernel_rfl) (by kernel_rfl) (by kernel_rfl) (by kernel_rfl) (by kernel_rfl) (by kernel_rfl) (by simp) rfl rfl rfl (fun W ht => (HM.out.later ht).front k hple) (fun W ht => rd_tailV (HM.out.later ht) hple) (by simp; omega) HE.out (HX.out h) hS0 ?_
              intro W v a b c d hn
              try simp only [List.setIfInBounds_toArray, List.set_cons_zero, List.set_cons_succ]
              refine drawn_last1 15 3 v rfl rfl (by kernel_rfl) (by kernel_rfl) (by rfl) (by intro w; go_simp) hn.turn ?_
              try simp only [List.setIfInBounds_toArray, List.set_cons_zero, List.set_cons_succ]
              have HR3 : Hid (RdE ET10 W v (ofT (l.take (i + 1))) ∧ Turn (fun _ => False) w W ∧ Typ10 W v) := ⟨by rw [HTK.out, HIN.out, if_neg HNE.out]; exact hn.own.rd, HT0.out.trans hn.turn (fun _ _ f => f), Typ10.own hn.own⟩
              clear hn hS0
              go_wp2
              go_roundw
              case rel => exact ⟨i + 1, by go_num, hlt, HR3.out⟩
              case measure => simp [intOf]; omega
          · have hkO : ¬ ((k : Int) < O.length) := by omega
            have HNE : Hid (¬ O[k]? = some h) := by rw [List.getElem?_eq_none (by omega)]; exact fun e => by cases e
            have hke : ((k : Int) == (O.length : Int)) = true := by simp; omega
            have hkl : k = O.length := by omega
            go_wp2_with fail
            go_quiet (fail)
            obtain ⟨q1, hq1⟩ : ∃ q1, q1 = nq := ⟨_, rfl⟩
            subst hq1
            go_wp2_with fail
            go_quiet (fail)
            go_wp2_with fail
            refine drawn_region (fun W => Turn (fun _ => False) wo W) [] (by kernel_rfl) ?_
            have ht0 : Turn (fun _ => False) wo (World.drew ((wr.drewN q1).drewN nq)) := ((HTW.out.drewN _).drewN _).drew
            generalize World.drew ((wr.drewN q1).drewN nq) = wd at *
            have hS0 := ht0
            clear ht0
            refine drawn_take 1 45 (.slice B O.length d) rfl rfl (by kernel_rfl) (by kernel_rfl) (by kernel_rfl) (by kernel_rfl) (fun _ _ _ h => h) (by rfl) (by assumption) (by intro w hSw; obtain hS1 := hSw; go_simp) ?_
            try simp only [List.setIfInBounds_toArray, List.set_cons_zero, List.set_cons_succ]
            refine drawn_take 2 46 (.int .i64 (k : Int)) rfl rfl (by kernel_rfl) (by kernel_rfl) (by kernel_rfl) (by kernel_rfl) (fun _ _ _ h => h) (by rfl) (by assumption) (by intro w hSw; obtain hS1 := hSw; go_simp) ?_
            try simp only [List.setIfInBounds_toArray, List.set_cons_zero, List.set_cons_succ]
            refine drawn_take 3 47 (.slice B k d) rfl rfl (by kernel_rfl) (by kernel_rfl) (by kernel_rfl) (by kernel_rfl) (fun _ _ _ h => h) (by rfl) (by assumption) (fun w _ => exec_front (E := ET10) rfl rfl rfl Tryz.underlying31 HZ.out hkc w) ?_
            try simp only [List.setIfInBounds_toArray, List.set_cons_zero, List.set_cons_succ]
            refine drawn_take 5 49 (.slice (some ad) l.length c) rfl rfl (by kernel_rfl) (by kernel_rfl) (by kernel_rfl) (by kernel_rfl) (fun _ _ _ h => h) (by rfl) (by assumption) (by intro w hSw; obtain hS1 := hSw; go_simp) ?_
            try simp only [List.setIfInBounds_toArray, List.set_cons_zero, List.set_cons_succ]
            refine drawn_take 6 50 (.int .i64 (i : Int)) rfl rfl (by kernel_rfl) (by kernel_rfl) (by kernel_rfl) (by kernel_rfl) (fun _ _ _ h => h) (by rfl) (by assumption) (by intro w hSw; obtain hS1 := hSw; go_simp) ?_
            try simp only [List.setIfInBounds_toArray, List.set_cons_zero, List.set_cons_succ]
            refine drawn_take 7 51 (.pointer (some (ad.add i))) rfl rfl (by kernel_rfl) (by kernel_rfl) (by kernel_rfl) (by kernel_rfl) (fun _ _ _ h => h) (by rfl) (by assumption) (by intro w hSw; obtain hS1 := hSw; go_simp) ?_
            try simp only [List.setIfInBounds_toArray, List.set_cons_zero, List.set_cons_succ]
            refine drawn_take 8 52 (sv10 h) rfl rfl (by kernel_rfl) (by kernel_rfl) (by kernel_rfl) (by kernel_rfl) (fun _ _ _ h => h) (by rfl) (by assumption) (by intro w hSw; have c1 := HC.out w (HT0.out.trans hSw (fun _ _ f => f)); unfold sv10 at c1; go_simp) ?_
            try simp only [List.setIfInBounds_toArray, List.set_cons_zero, List.set_cons_succ]
            refine drawn_take 11 55 (.slice B O.length d) rfl rfl (by kernel_rfl) (by kernel_rfl) (by kernel_rfl) (by kernel_rfl) (fun _ _ _ h => h) (by rfl) (by assumption) (by intro w hSw; obtain hS1 := hSw; go_simp) ?_
            try simp only [List.setIfInBounds_toArray, List.set_cons_zero, List.set_cons_succ]
            refine drawn_take 12 56 (.int .i64 (k : Int)) rfl rfl (by kernel_rfl) (by kernel_rfl) (by kernel_rfl) (by kernel_rfl) (fun _ _ _ h => h) (by rfl) (by assumption) (by intro w hSw; obtain hS1 := hSw; go_simp) ?_
            try simp only [List.setIfInBounds_toArray, List.set_cons_zero, List.set_cons_succ]
            refine drawn_take 13 57 (tailV ET10 B O.length d k) rfl rfl (by kernel_rfl) (by kernel_rfl) (by kernel_rfl) (by kernel_rfl) (fun _ _ _ h => h) (by rfl) (by assumption) (fun w _ => exec_tail (E := ET10) rfl rfl rfl Tryz.underlying31 HZ.out hple w) ?_
            try simp only [List.setIfInBounds_toArray, List.set_cons_zero, List.set_cons_succ]
            refine drawn_ins (E := ET10) (l1 := O.take k) (l3 := O.drop k) (x := h) Tryz.underlying31 str_info10 str_zero10 (by omega) (fun W h => h) 0 4 9 10 14 44 48 53 54 58 47 52 57 rfl rfl rfl rfl rfl rfl rfl rfl rfl rfl rfl rfl rfl rfl rfl rfl rfl rfl rfl rfl
              (by kernel_rfl) (by kernel_rfl) (by kernel_rfl) (by kernel_rfl) (by kernel_rfl) (by kernel_rfl) (by kernel_rfl) (by simp) rfl rfl rfl (fun W ht => (HM.out.later ht).front k hple) (fun W ht => rd_tailV (HM.out.later ht) hple) (by simp; omega) HE.out (HX.out h) hS0 ?_
            intro W v a b c d hn
            try simp only [List.setIfInBounds_toArray, List.set_cons_zero, List.set_cons_succ]
            refine drawn_last1 15 3 v rfl rfl (by kernel_rfl) (by kernel_rfl) (by rfl) (by intro w; go_simp) hn.turn ?_
            try simp only [List.setIfInBounds_toArray, List.set_cons_zero, List.set_cons_succ]
            have HR3 : Hid (RdE ET10 W v (ofT (l.take (i + 1))) ∧ Turn (fun _ => False) w W ∧ Typ10 W v) := ⟨by rw [HTK.out, HIN.out, if_neg HNE.out]; exact hn.own.rd, HT0.out.trans hn.turn (fun _ _ f => f), Typ10.own hn.own⟩
            clear hn hS0
            go_wp2
            go_roundw
            case rel => exact ⟨i + 1, by go_num, hlt, HR3.out⟩
            case measure => simp [intOf]; omega
    · obtain rfl : i = l.length := by omega
      have HM2 := HM.out
      rw [List.take_length] at HM2
      go_wp2
      go_ret
      exact ⟨_, rfl, HM2, HT.out, HTY.out⟩
theorem ref_of10 (v : Value) (l : List (List UInt8)) (w : World) (hv : RdE ET10 w v l) (hl : l.length ≤ 20000) : Calls Tryz.prog 27 #[v] w fun e w' => Texts10 w (ofT l) e w' :=
  (ref_of_typ10 v l w hv hl).mono fun _ _ ⟨v, h1, h2, h3, _⟩ => ⟨v, h1, h2, h3⟩

end Go.Proofs.YticglepkbihldaaGreat

/-
  Stage 12, plain: which rows fit, their texts, a segment's bytes.
-/
namespace Go.Proofs.YticglepkbihldaaGreat
open Go.RowKit

/-- Why rows do not fit so many dimensions: the first one's fault. -/
def fitR (n : Int) : List R11 → Int
  | [] => 0
  | r :: l => if chkF ⟨r.k, 0⟩ n = 0 then fitR n l else chkF ⟨r.k, 0⟩ n
def fitL (l : List R11) (n : Int) : Int := if okDims n then fitR n l else 1
/-- What is said of the number of dimensions alone. -/
def dimsF (n : Int) : Int := if okDims n then 0 else 1
theorem fitR_all {n : Int} : ∀ {l : List R11}, (∀ r ∈ l, chkF ⟨r.k, 0⟩ n = 0) → fitR n l = 0
  | [], _ => rfl
  | r :: l, h => by
    unfold fitR
    rw [if_pos (h r (List.mem_cons_self ..))]
    exact fitR_all fun x hx => h x (List.mem_cons_of_mem _ hx)
theorem fitR_iff {n : Int} : ∀ {l : List R11}, fitR n l = 0 → ∀ r ∈ l, chkF ⟨r.k, 0⟩ n = 0
  | [], _, r, hr => by cases hr
  | x :: l, h, r, hr => by
    unfold fitR at h
    by_cases hx : chkF ⟨x.k, 0⟩ n = 0
    · rw [if_pos hx] at h
      rcases List.mem_cons.1 hr with rfl | hr
      · exact hx
      · exact fitR_iff h r hr
    · rw [if_neg hx] at h
      exact absurd h hx
/-- The first one that does not fit. -/
theorem fitR_at {n : Int} : ∀ {pre : List R11} {y : R11} {t : List R11}, (∀ r ∈ pre, chkF ⟨r.k, 0⟩ n = 0) → chkF ⟨y.k, 0⟩ n ≠ 0 → fitR n (pre ++ y :: t) = chkF ⟨y.k, 0⟩ n
  | [], y, t, _, h => by
    show (if _ then _ else _) = _
    rw [if_neg h]
  | x :: pre, y, t, hp, h => by
    show (if _ then _ else _) = _
    rw [if_pos (hp x (List.mem_cons_self ..))]
    exact fitR_at (fun r hr => hp r (List.mem_cons_of_mem _ hr)) h
theorem fitL_ok {l : List R11} {n : Int} : fitL l n = 0 ↔ okDims n = true ∧ ∀ r ∈ l, chkF ⟨r.k, 0⟩ n = 0 := by
  unfold fitL
  constructor
  · intro h
    split at h
    · rename_i hd
      exact ⟨hd, fitR_iff h⟩
    · cases h
  · rintro ⟨h1, h2⟩
    rw [if_pos h1]
    exact fitR_all h2
theorem okDims_nat {n : Int} (h : okDims n = true) : ∃ N : Nat, n = (N : Int) ∧ 1 ≤ N ∧ N ≤ 4 := by
  unfold okDims at h
  simp only [Bool.and_eq_true, decide_eq_true_iff] at h
  obtain ⟨N, rfl⟩ := Int.eq_ofNat_of_zero_le (show 0 ≤ n by omega)
  exact ⟨N, rfl, by omega, by omega⟩
/-- A row that fits: its hour, its texts. -/
structure Fit12 (N : Nat) (k : K9) : Prop where
  h0 : 0 ≤ k.h
  h1 : k.h ≤ 16777216
  t : ∀ i, i < 4 → (k.dim i).length ≤ 16
  e : ∀ i, i < 4 → N ≤ i → k.dim i = []
theorem chk_fit {k : K9} {N : Nat} (h : chkF ⟨k, 0⟩ (N : Int) = 0) : Fit12 N k := by
  unfold chkF at h
  split at h
  · split at h
    · rename_i hr
      split at h
      · rename_i ht
        simp only [okTexts, okText, Bool.and_eq_true, Bool.or_eq_true, decide_eq_true_iff, List.isEmpty_iff] at ht
        refine ⟨hr.1, hr.2.1, fun i hi => ?_, fun i hi hn => ?_⟩
        · match i, hi with
          | 0, _ => exact ht.1.1.1.1
          | 1, _ => exact ht.1.1.2.1
          | 2, _ => exact ht.1.2.1
          | 3, _ => exact ht.2.1
        · match i, hi with
          | 0, _ => rcases ht.1.1.1.2 with g | g; · omega
                    · exact g
          | 1, _ => rcases ht.1.1.2.2 with g | g; · omega
                    · exact g
          | 2, _ => rcases ht.1.2.2 with g | g; · omega
                    · exact g
          | 3, _ => rcases ht.2.2 with g | g; · omega
                    · exact g
      · cases h
    · cases h
  · cases h

/-- The texts of rows in a dimension. -/
def dimT (l : List R11) (d : Nat) : List (List UInt8) := ofT (l.map fun r => r.k.dim d)
def textsL (l : List R11) (d : Int) : List (List UInt8) := if 0 ≤ d ∧ d < 4 then dimT l d.toNat else []
theorem dimT_up (l : List R11) (d : Nat) : (dimT l d).Pairwise fun x y => Op.bytesLess x y = true := (setG_is Op.bytesLess rises_bytes _).1
theorem dimT_mem (l : List R11) (d : Nat) (x : List UInt8) : x ∈ dimT l d ↔ ∃ r ∈ l, r.k.dim d = x := by
  unfold dimT ofT
  rw [(setG_is Op.bytesLess rises_bytes _).2 x, List.mem_map]
theorem dimT_len (l : List R11) (d : Nat) : (dimT l d).length ≤ l.length := by
  have h := setG_len Op.bytesLess (l.map fun r => r.k.dim d) (l.map fun r => r.k.dim d).length
  rw [List.take_length, List.length_map] at h
  exact h

/-- A text's bytes; those of a dimension; of all; a row's. -/
def tB (t : List UInt8) : List UInt8 := enc t.length ++ t
def dimB (T : List (List UInt8)) : List UInt8 := enc T.length ++ T.flatMap tB
def dimsB (T : Nat → List (List UInt8)) : Nat → List UInt8
  | 0 => []
  | d + 1 => dimsB T d ++ dimB (T d)
def placesB (T : Nat → List (List UInt8)) (k : K9) : Nat → List UInt8
  | 0 => []
  | d + 1 => placesB T k d ++ enc (idxG (k.dim d) (T d))
def cellB (c : Cl) : List UInt8 := enc c.n.toNat ++ (enc (zig c.s) ++ (enc (zig c.lo) ++ enc (zig c.hi)))
def rowB (T : Nat → List (List UInt8)) (N : Nat) (last : Int) (r : R11) : List UInt8 := enc (r.k.h - last).toNat ++ (placesB T r.k N ++ cellB r.c)
def rowsB (T : Nat → List (List UInt8)) (N : Nat) : Int → List R11 → List UInt8
  | _, [] => []
  | last, r :: l => rowB T N last r ++ rowsB T N r.k.h l
def payB (l : List R11) (N : Nat) : List UInt8 := enc N ++ (dimsB (dimT l) N ++ (enc l.length ++ rowsB (dimT l) N 0 l))
/-- The hour of the last row. -/
def lastH (last : Int) (l : List R11) : Int := l.foldl (fun _ r => r.k.h) last
theorem lastH_snoc (last : Int) (l : List R11) (r : R11) : lastH last (l ++ [r]) = r.k.h := by simp [lastH]
theorem rowsB_app (T : Nat → List (List UInt8)) (N : Nat) : ∀ (last : Int) (a b : List R11), rowsB T N last (a ++ b) = rowsB T N last a ++ rowsB T N (lastH last a) b
  | _, [], _ => rfl
  | last, r :: a, b => by
    show rowB T N last r ++ rowsB T N r.k.h (a ++ b) = _
    rw [rowsB_app T N r.k.h a b, ← List.append_assoc]
    rfl
theorem rowsB_snoc (T : Nat → List (List UInt8)) (N : Nat) (last : Int) (a : List R11) (r : R11) : rowsB T N last (a ++ [r]) = rowsB T N last a ++ rowB T N (lastH last a) r := by
  rw [rowsB_app]
  show _ ++ (rowB T N _ r ++ []) = _
  rw [List.append_nil]
/-- A beginning has no more bytes than the whole. -/
theorem rowsB_pre (T : Nat → List (List UInt8)) (N : Nat) (last : Int) {a l : List R11} (h : a <+: l) : (rowsB T N last a).length ≤ (rowsB T N last l).length := by
  obtain ⟨b, rfl⟩ := h
  rw [rowsB_app, List.length_append]
  omega
theorem dimsB_le (T : Nat → List (List UInt8)) {d N : Nat} (h : d ≤ N) : (dimsB T d).length ≤ (dimsB T N).length := by
  induction N with
  | zero => obtain rfl : d = 0 := by omega
            exact Nat.le_refl _
  | succ N ih =>
    by_cases e : d = N + 1
    · subst e; exact Nat.le_refl _
    · have := ih (by omega)
      show _ ≤ (dimsB T N ++ _).length
      rw [List.length_append]
      omega
theorem placesB_le (T : Nat → List (List UInt8)) (k : K9) {d N : Nat} (h : d ≤ N) : (placesB T k d).length ≤ (placesB T k N).length := by
  induction N with
  | zero => obtain rfl : d = 0 := by omega
            exact Nat.le_refl _
  | succ N ih =>
    by_cases e : d = N + 1
    · subst e; exact Nat.le_refl _
    · have := ih (by omega)
      show _ ≤ (placesB T k N ++ _).length
      rw [List.length_append]
      omega
/-- Hours of a segment's rows do not fall. -/
theorem last_le {l : List R11} (hl : RiseR l) {pre : List R11} {y : R11} (hp : pre ++ [y] <+: l) (h0 : ∀ r ∈ l, 0 ≤ r.k.h) : lastH 0 pre ≤ y.k.h ∧ 0 ≤ lastH 0 pre := by
  obtain ⟨t, rfl⟩ := hp
  rcases List.eq_nil_or_concat pre with rfl | ⟨p, z, rfl⟩
  · exact ⟨h0 y (by simp), Int.le_refl _⟩
  · rw [List.concat_eq_append] at *
    rw [lastH_snoc]
    refine ⟨?_, h0 z (by simp)⟩
    unfold RiseR at hl
    rw [List.append_assoc, List.append_assoc] at hl
    have h1 := (List.pairwise_append.1 hl).2.1
    have h2 := (List.pairwise_cons.1 h1).1 y (by simp)
    have h3 : z.k.h < y.k.h ∨ z.k.h = y.k.h := by
      by_cases e : z.k.h = y.k.h
      · exact .inr e
      · left
        simp [keyLt, lexB, K9.tup, e] at h2
        exact of_decide_eq_true h2
    omega

/-- What Encode answers. -/
def encL (l : List R11) (n : Int) : List UInt8 := if fitL l n = 0 then fr (payB l n.toNat) else []

theorem tB_len {t : List UInt8} (h : t.length ≤ 16) : (tB t).length ≤ 26 := by
  unfold tB
  have := enc_len t.length
  rw [List.length_append]
  omega
theorem flat_len : ∀ (T : List (List UInt8)), (∀ t ∈ T, t.length ≤ 16) → (T.flatMap tB).length ≤ 26 * T.length
  | [], _ => Nat.le_refl _
  | t :: T, h => by
    have h1 := tB_len (h t (List.mem_cons_self ..))
    have h2 := flat_len T fun x hx => h x (List.mem_cons_of_mem _ hx)
    rw [List.flatMap_cons, List.length_append, List.length_cons]
    omega
theorem dimB_len {T : List (List UInt8)} (h : ∀ t ∈ T, t.length ≤ 16) (hl : T.length ≤ 60) : (dimB T).length ≤ 1570 := by
  unfold dimB
  have h1 := flat_len T h
  have h2 := enc_len T.length
  rw [List.length_append]
  omega
theorem dimsB_len {T : Nat → List (List UInt8)} : ∀ {N : Nat}, (∀ d, d < N → (∀ t ∈ T d, t.length ≤ 16) ∧ (T d).length ≤ 60) → (dimsB T N).length ≤ 1570 * N
  | 0, _ => Nat.le_refl _
  | N + 1, h => by
    have h1 := dimsB_len (T := T) (N := N) fun d hd => h d (by omega)
    have h2 := dimB_len (h N (by omega)).1 (h N (by omega)).2
    show (dimsB T N ++ dimB (T N)).length ≤ _
    rw [List.length_append]
    omega
theorem placesB_len (T : Nat → List (List UInt8)) (k : K9) : ∀ N, (placesB T k N).length ≤ 10 * N
  | 0 => Nat.le_refl _
  | N + 1 => by
    have h1 := placesB_len T k N
    have h2 := enc_len (idxG (k.dim N) (T N))
    show (placesB T k N ++ _).length ≤ _
    rw [List.length_append]
    omega
theorem rowB_len (T : Nat → List (List UInt8)) {N : Nat} (hN : N ≤ 4) (last : Int) (r : R11) : (rowB T N last r).length ≤ 90 := by
  unfold rowB cellB
  have h1 := placesB_len T r.k N
  have h2 := enc_len (r.k.h - last).toNat
  have h3 := enc_len r.c.n.toNat
  have h4 := enc_len (zig r.c.s)
  have h5 := enc_len (zig r.c.lo)
  have h6 := enc_len (zig r.c.hi)
  simp only [List.length_append]
  omega
theorem rowsB_len (T : Nat → List (List UInt8)) {N : Nat} (hN : N ≤ 4) : ∀ (last : Int) (l : List R11), (rowsB T N last l).length ≤ 90 * l.length
  | _, [] => Nat.le_refl _
  | last, r :: l => by
    have h1 := rowB_len T hN last r
    have h2 := rowsB_len T hN r.k.h l
    show (rowB T N last r ++ rowsB T N r.k.h l).length ≤ _
    rw [List.length_append, List.length_cons]
    omega
/-- Few rows that fit have few bytes. -/
theorem payB_len {l : List R11} {n : Int} (h : fitL l n = 0) (hl : l.length ≤ 60) : (payB l n.toNat).length ≤ 19000 := by
  obtain ⟨h1, h2⟩ := fitL_ok.1 h
  obtain ⟨N, rfl, hN1, hN⟩ := okDims_nat h1
  rw [Int.toNat_natCast]
  have hd := dimsB_len (T := dimT l) (N := N) fun d hd => ⟨fun t ht => by
    obtain ⟨r, hr, rfl⟩ := (dimT_mem l d t).1 ht
    exact (chk_fit (h2 r hr)).t d (by omega), Nat.le_trans (dimT_len l d) hl⟩
  have hr := rowsB_len (dimT l) hN 0 l
  have e1 := enc_len N
  have e2 := enc_len l.length
  unfold payB
  simp only [List.length_append]
  omega

end Go.Proofs.YticglepkbihldaaGreat

/-
  Worlds that have only grown, and drawn: what slices.SortFunc asks of a closure. No type is named.
-/
namespace Go.Proofs.YticglepkbihldaaGreat
open Go.RowKit

/-- w' has come of w by blocks laid and draws alone. -/
def Gr (w w' : World) : Prop := ∃ q os, w' = Sort.grow (w.drewN q) os
theorem Gr.refl (w : World) : Gr w w := ⟨0, #[], by rw [Sort.grow_empty]; rfl⟩
theorem Gr.trans {a b c : World} (h : Gr a b) (g : Gr b c) : Gr a c := by
  obtain ⟨q, os, rfl⟩ := h
  obtain ⟨q2, os2, rfl⟩ := g
  refine ⟨q + q2, os ++ os2, ?_⟩
  show Sort.grow (Sort.grow ((a.drewN q).drewN q2) os) os2 = _
  rw [Sort.grow_grow]
  congr 1
  simp [World.drewN, Nat.add_assoc]
theorem Gr.drewN {a b : World} (h : Gr a b) (n : Nat) : Gr a (b.drewN n) := h.trans ⟨n, #[], by rw [Sort.grow_empty]⟩
theorem Gr.drew {a b : World} (h : Gr a b) : Gr a b.drew := h.drewN 1
theorem Gr.alloc {a b : World} (h : Gr a b) (o : Obj) : Gr a (b.alloc o) := h.trans ⟨0, #[o], Sort.alloc_eq_grow b o⟩
theorem Gr.turn {a b : World} (h : Gr a b) : Turn (fun _ => False) a b := by
  obtain ⟨q, os, rfl⟩ := h
  refine ⟨rfl, rfl, rfl, ?_, ?_⟩
  · show a.heap.size ≤ (a.heap ++ os).size
    rw [Array.size_append]
    omega
  · intro k hk _
    show (a.heap ++ os)[k]? = a.heap[k]?
    rw [Array.getElem?_append_left hk]

end Go.Proofs.YticglepkbihldaaGreat

/-
  Rows of a call's own, of elements of any size, sorted: from and to the shelf's words. No type is named.
-/
namespace Go.Proofs.YticglepkbihldaaGreat
open Go.RowKit

section
variable {T : Type} [Inhabited T] {E : El T} {e : TypeId} {w : World} {L : List T}

theorem flatK_eq (E : El T) (d : Array T) : Sort.flatK E.enc E.sz d = (E.flat d.toList).toArray := by
  apply Sort.ext_get!
  · rw [Sort.size_flatK]
    show _ = (E.flat d.toList).length
    rw [E.flat_len]
    rfl
  · intro t ht
    rw [Sort.size_flatK] at ht
    have h0 : 0 < E.sz := by
      rcases Nat.eq_zero_or_pos E.sz with h | h
      · rw [h, Nat.mul_zero] at ht; exact absurd ht (Nat.not_lt_zero t)
      · exact h
    have hd : t / E.sz < d.size := (Nat.div_lt_iff_lt_mul h0).2 ht
    have hm : t % E.sz < E.sz := Nat.mod_lt _ h0
    rw [Sort.get_flatK _ _ _ _ ht]
    have hx : d.toList[t / E.sz]? = some d[t / E.sz] := by rw [Array.getElem?_toList, Array.getElem?_eq_getElem hd]
    have h1 := E.flat_at hx hm
    rw [show t / E.sz * E.sz + t % E.sz = t by rw [Nat.mul_comm]; exact Nat.div_add_mod t E.sz] at h1
    rw [getElem!_pos d _ hd]
    simp only [getElem!_def, List.getElem?_toArray, h1]

/-- A row of one's own holds its elements in the shelf's words. -/
theorem OwE.holdsK {ad : Addr} {n c : Nat} (h : OwE E e w (.slice (some ad) n c) L) : Sort.HoldsK E.enc E.sz w ad.block 0 L.toArray := by
  obtain ⟨cur, _, _, hb, _, _, _, h4⟩ := h.home
  unfold Sort.HoldsK Sort.Holds
  rw [flatK_eq]
  intro j hj
  rw [List.size_toArray] at hj
  rw [Nat.zero_add]
  refine ⟨?_, hb.free j⟩
  rw [hb.cell]
  have e1 : (E.flat L)[j]? = cur[j]? := by
    rw [← h4, List.getElem?_take, if_pos (by rw [E.flat_len] at hj; exact hj), Array.getElem?_toList]
  rw [← e1, List.getElem?_eq_getElem hj]
  simp only [id]
  rw [getElem!_pos _ j (by rw [List.size_toArray]; exact hj)]
  rfl

theorem turn_sortK (E : El T) (d : Array T) (g m : Nat) (os : Array Obj) (w : World) : Turn (fun k => k = g) w (sortWorldK E.enc E.sz w g 0 m d os) := by
  refine ⟨rfl, rfl, rfl, ?_, ?_⟩
  · show w.heap.size ≤ (_ ++ os).size
    rw [Array.size_append, Sort.putRowK, Sort.size_putRow]
    exact Nat.le_add_right _ _
  · intro k hk hg
    show (_ ++ os)[k]? = _
    rw [Array.getElem?_append_left (by rw [Sort.putRowK, Sort.size_putRow]; exact hk)]
    show (w.heap.modify g _)[k]? = _
    rw [Array.getElem?_modify, if_neg (fun e => hg e.symm)]

/-- Behind a sort: the row is one's own still, and holds what the shelf says. -/
theorem OwE.sorted {ad : Addr} {n c : Nat} (h : OwE E e w (.slice (some ad) n c) L) (d : Array T) (hd : d.size = L.length) (m : Nat) (os : Array Obj) :
    OwE E e (sortWorldK E.enc E.sz w ad.block 0 m d os) (.slice (some ad) n c) d.toList ∧ Turn (fun k => k = ad.block) w (sortWorldK E.enc E.sz w ad.block 0 m d os) := by
  refine ⟨?_, turn_sortK E d _ m os w⟩
  have hH := h.holdsK
  obtain ⟨cur, had, hn, hb, h1, h2, h3, h4⟩ := h.home
  have hlt := hb.lt
  have hdl : d.toList.length = L.length := by rw [Array.length_toList, hd]
  have hH2 : Sort.HoldsK E.enc E.sz (sortWorldK E.enc E.sz w ad.block 0 m d os) ad.block 0 d := by
    unfold sortWorldK
    refine Sort.holdsK_grow _ _ _ _ _ _ _ (by rw [Sort.putRowK, Sort.size_putRow]; exact hlt) (Sort.holdsK_putRowK _ _ _ _ _ L.toArray _ (Sort.holdsK_ahead _ _ _ _ _ _ _ hH) (by rw [List.size_toArray]; exact hd))
  have hb2 : Box (sortWorldK E.enc E.sz w ad.block 0 m d os) ad.block e (Sort.putCells id 0 (Sort.flatK E.enc E.sz d) cur) := by
    show (_ ++ os)[ad.block]? = _
    rw [Array.getElem?_append_left (by rw [Sort.putRowK, Sort.size_putRow]; exact hlt)]
    show (w.heap.modify ad.block _)[ad.block]? = _
    rw [Array.getElem?_modify, if_pos rfl, hb]
    rfl
  rw [had, hn, ← hdl]
  refine OwE.of_box hb2 (by rw [hdl]; exact h1) h2 (by rw [Sort.putCells, Array.size_mapIdx]; exact h3) ?_
  unfold Sort.HoldsK Sort.Holds at hH2
  rw [flatK_eq] at hH2
  rw [flatK_eq] at hb2 ⊢
  apply List.ext_getElem?
  intro j
  rw [List.getElem?_take]
  split
  · rename_i hj
    have hj2 : j < (E.flat d.toList).length := by rw [E.flat_len]; exact hj
    have g1 := (hH2 j (by rw [List.size_toArray]; exact hj2)).1
    rw [Nat.zero_add, hb2.cell] at g1
    rw [Array.getElem?_toList, g1, List.getElem?_eq_getElem hj2, id, getElem!_pos _ j (by rw [List.size_toArray]; exact hj2)]
    rfl
  · rename_i hj
    rw [List.getElem?_eq_none (by rw [E.flat_len]; omega)]
end


end Go.Proofs.YticglepkbihldaaGreat

/-
  Rows of numbers of one cell, sorted and made one of each: from and to the shelf's words; lists that rise. No type is named.
-/
namespace Go.Proofs.YticglepkbihldaaGreat
open Go.RowKit

/-- Two lists that rise, with the same things, are one. -/
theorem rising_one {A : Type} {lt : A → A → Bool} (h : Rises lt) : ∀ {l m : List A}, (l.Pairwise fun x y => lt x y = true) → (m.Pairwise fun x y => lt x y = true) → (∀ x, x ∈ l ↔ x ∈ m) → l = m
  | [], [], _, _, _ => rfl
  | [], y :: m, _, _, he => by have := (he y).2 (List.mem_cons_self ..); cases this
  | x :: l, [], _, _, he => by have := (he x).1 (List.mem_cons_self ..); cases this
  | x :: l, y :: m, hl, hm, he => by
    rw [List.pairwise_cons] at hl hm
    have hxy : x = y := by
      rcases List.mem_cons.1 ((he x).1 (List.mem_cons_self ..)) with e | e
      · exact e
      · rcases List.mem_cons.1 ((he y).2 (List.mem_cons_self ..)) with e2 | e2
        · exact e2.symm
        · have h1 := h.tr x y x (hl.1 y e2) (hm.1 x e)
          rw [h.irr x] at h1
          cases h1
    subst hxy
    have hlm : l = m := by
      refine rising_one h hl.2 hm.2 fun z => ⟨fun hz => ?_, fun hz => ?_⟩
      · rcases List.mem_cons.1 ((he z).1 (List.mem_cons_of_mem _ hz)) with e | e
        · subst e
          have h1 := hl.1 z hz
          rw [h.irr z] at h1
          cases h1
        · exact e
      · rcases List.mem_cons.1 ((he z).2 (List.mem_cons_of_mem _ hz)) with e | e
        · subst e
          have h1 := hm.1 z hz
          rw [h.irr z] at h1
          cases h1
        · exact e
    rw [hlm]

/-- What slices.Compact leaves of numbers in order: each once, in order. -/
theorem compact_mem (zs : List Int) (x : Int) : x ∈ Lib.compact zs ↔ x ∈ zs := by
  unfold Lib.compact Lib.compactUpTo
  simp only [List.mem_map, List.mem_filter, List.mem_range]
  constructor
  · rintro ⟨i, ⟨hi, _⟩, rfl⟩
    rw [getElem!_pos zs.toArray i (by rw [List.size_toArray]; exact hi)]
    simp
  · intro hx
    obtain ⟨i, hi, e⟩ := List.getElem_of_mem hx
    have key : ∀ i, i < zs.length → zs.toArray[i]! = x → ∃ a, (a < zs.length ∧ Lib.keeps zs.toArray a = true) ∧ zs.toArray[a]! = x := by
      intro i
      induction i with
      | zero => intro hi e; exact ⟨0, ⟨hi, by simp [Lib.keeps]⟩, e⟩
      | succ i ih =>
        intro hi e
        by_cases hk : Lib.keeps zs.toArray (i + 1) = true
        · exact ⟨i + 1, ⟨hi, hk⟩, e⟩
        · have h2 : zs.toArray[i + 1]! = zs.toArray[i]! := by
            simp only [Lib.keeps, decide_eq_true_iff, not_or, Classical.not_not] at hk
            exact hk.2
          exact ih (by omega) (by rw [← h2]; exact e)
    exact key i hi (by rw [getElem!_pos zs.toArray i (by rw [List.size_toArray]; exact hi)]; simpa using e)
theorem compact_rises (zs : List Int) (h : zs.Pairwise fun x y => x ≤ y) : (Lib.compact zs).Pairwise fun x y => decide (x < y) = true := by
  unfold Lib.compact Lib.compactUpTo
  rw [List.pairwise_map]
  have hr : ((List.range zs.length).filter (Lib.keeps zs.toArray)).Pairwise fun a b => a < b := List.pairwise_lt_range.filter _
  refine hr.imp_of_mem fun {a b} ha hb hab => ?_
  rw [List.mem_filter, List.mem_range] at ha hb
  have hs : ∀ i, i < zs.length → ∃ (hi : i < zs.length), zs.toArray[i]! = zs[i] := fun i hi => ⟨hi, by rw [getElem!_pos zs.toArray i (by rw [List.size_toArray]; exact hi)]; simp⟩
  obtain ⟨ha1, ea⟩ := hs a ha.1
  obtain ⟨hb1, eb⟩ := hs b hb.1
  obtain ⟨hc1, ec⟩ := hs (b - 1) (by omega)
  have hk := hb.2
  simp only [Lib.keeps, decide_eq_true_iff] at hk
  have hne : zs.toArray[b]! ≠ zs.toArray[b - 1]! := hk.resolve_left (by omega)
  rw [eb, ec] at hne
  have h1 : zs[b - 1] ≤ zs[b] := List.pairwise_iff_getElem.1 h (b - 1) b hc1 hb1 (by omega)
  have h2 : zs[a] ≤ zs[b - 1] := by
    by_cases e : a = b - 1
    · subst e; exact Int.le_refl _
    · exact List.pairwise_iff_getElem.1 h a (b - 1) ha1 hc1 (by omega)
  rw [ea, eb, decide_eq_true_iff]
  omega
theorem nums_sorted (zs : List Int) : (zs.mergeSort fun x y => decide (x ≤ y)).Pairwise fun x y => x ≤ y := by
  have h := List.pairwise_mergeSort (le := fun x y : Int => decide (x ≤ y)) (by intro a b c h1 h2; simp only [decide_eq_true_iff] at *; omega) (by intro a b; simp only [Bool.or_eq_true, decide_eq_true_iff]; omega) zs
  exact h.imp fun h => by simpa using h

section
variable {E : El Int} {e : TypeId} {w : World} {L : List Int}
theorem flat_map1 {T : Type} {E : El T} {f : T → Value} (he : ∀ x, E.enc x = [f x]) (l : List T) : E.flat l = l.map f := by
  induction l with
  | nil => rfl
  | cons x l ih => rw [El.flat_cons, he, ih]; rfl
/-- The row with other numbers, as many. -/
theorem OwE.row {T : Type} [Inhabited T] {E : El T} {L : List T} {ad : Addr} {n c : Nat} (h : OwE E e w (.slice (some ad) n c) L) {f : T → Value} (he : ∀ x, E.enc x = [f x]) (d : List T) (hd : d.length = L.length) (m : Nat) (os : Array Obj) :
    OwE E e (Sort.grow (Sort.putRow f (Sort.ahead w m) ad.block 0 d.toArray) os) (.slice (some ad) n c) d ∧ Turn (fun k => k = ad.block) w (Sort.grow (Sort.putRow f (Sort.ahead w m) ad.block 0 d.toArray) os) := by
  have h1 := h.sorted d.toArray (by rw [List.size_toArray]; exact hd) m os
  have e1 : sortWorldK E.enc E.sz w ad.block 0 m d.toArray os = Sort.grow (Sort.putRow f (Sort.ahead w m) ad.block 0 d.toArray) os := by
    unfold sortWorldK Sort.putRowK
    congr 1
    unfold Sort.putRow
    refine Sort.mapBlock_congr _ _ _ _ fun cs _ _ _ => ?_
    unfold Sort.putCells
    rw [flatK_eq, flat_map1 he]
    simp only [List.size_toArray, List.length_map]
    congr 1
    funext k x
    split
    · rename_i hk
      have hk2 : k - 0 < d.length := by omega
      rw [getElem!_pos _ (k - 0) (by rw [List.size_toArray, List.length_map]; exact hk2), getElem!_pos _ (k - 0) (by rw [List.size_toArray]; exact hk2)]
      simp
    · rfl
  rw [e1] at h1
  exact h1
theorem OwE.holds1 {T : Type} [Inhabited T] {E : El T} {L : List T} {ad : Addr} {n c : Nat} (h : OwE E e w (.slice (some ad) n c) L) {f : T → Value} (he : ∀ x, E.enc x = [f x]) : Sort.Holds f w ad.block 0 L.toArray := by
  have h1 := h.holdsK
  unfold Sort.HoldsK at h1
  rw [flatK_eq, flat_map1 he] at h1
  intro j hj
  have h2 := h1 j (by rw [List.size_toArray, List.length_map]; rw [List.size_toArray] at hj; exact hj)
  refine ⟨?_, h2.2⟩
  rw [h2.1]
  rw [List.size_toArray] at hj
  rw [getElem!_pos _ j (by rw [List.size_toArray, List.length_map]; exact hj), getElem!_pos _ j (by rw [List.size_toArray]; exact hj)]
  simp
end

end Go.Proofs.YticglepkbihldaaGreat

/-
  Stage 10: numbers in memory; numbers of things, things of numbers, plain.
-/
namespace Go.Proofs.YticglepkbihldaaGreat
open Go.RowKit Go.ChangeShapes Go.WideShapes Go.Deep

set_option maxRecDepth 100000

/-- A number's cell. -/
def EC10 : El Int where
  sz := 1
  enc p := [.int .i64 p]
  len _ := rfl
  one p u hu := by rw [List.mem_singleton.1 hu]; rfl
theorem num_at10 {w : World} {A : Option Addr} {n c : Nat} {L : List Int} (h : RdE EC10 w (.slice A n c) L) {j : Nat} {x : Int} (hj : L[j]? = some x) :
    ∃ ad, A = some ad ∧ ∀ W, Turn (fun _ => False) w W → W.cell? (ad.add j) = some (.int .i64 x) := by
  obtain ⟨ad, hA, _⟩ := h.cells hj
  refine ⟨ad, hA, fun W ht => ?_⟩
  obtain ⟨ad', hA', hc⟩ := (h.later ht).cells hj
  rw [hA] at hA'
  cases hA'
  have h1 := hc 0 _ rfl
  rwa [show j * EC10.sz + 0 = j from by simp [EC10]] at h1
theorem open_numa10 {H : Type} {enc : TypeId × Value → H} {W : World} (n : Nat) (cs : List Value) (y : DataW H × List MemPlace) (hl : cs.length = EC10.sz) (h : DataW.trod enc Tryz.prog W 0 (fun _ => true) true n 2 cs = some y) :
    ∃ x, cs = EC10.enc x ∧ (Lit.int .i64 x).wf = true := by
  match cs, hl with
  | [c0], _ =>
    obtain ⟨K, k0, _, kw⟩ := DataW.trod_int Tryz.underlying2 h
    simp only [List.cons.injEq, and_true] at k0
    subst k0
    exact ⟨K, rfl, kw⟩
theorem open_numb10 {H : Type} {enc : TypeId × Value → H} {W : World} (n : Nat) (cs : List Value) (y : DataW H × List MemPlace) (hl : cs.length = EC10.sz) (h : DataW.trod enc Tryz.prog W 0 (fun _ => true) true n 3 cs = some y) :
    ∃ x, cs = EC10.enc x ∧ (Lit.int .i64 x).wf = true := by
  match cs, hl with
  | [c0], _ =>
    obtain ⟨K, k0, _, kw⟩ := DataW.trod_int Tryz.underlying3 h
    simp only [List.cons.injEq, and_true] at k0
    subst k0
    exact ⟨K, rfl, kw⟩
theorem open_numbs10 {H : Type} {enc : TypeId × Value → H} {W : World} {v : Value} {d : DataW H} {p : List MemPlace} {a : Option Addr} {len cap : Nat} (hv : v = .slice a len cap)
    (h : DataW.Trod enc Tryz.prog W 0 (fun _ => true) true 156 v d p) : ∃ l : List Int, RdE EC10 W v l ∧ l.length ≤ maxLen ∧ ∀ x ∈ l, (Lit.int .i64 x).wf = true :=
  open_elems EC10 (fun x => (Lit.int .i64 x).wf = true) Tryz.underlying156 (by kernel_rfl) hv h open_numb10

section
variable {A : Type} [DecidableEq A]
/-- The number of a thing: none, or that. -/
def codeG (x : A) (L : List A) : Option Nat := if idxG x L < L.length then some (idxG x L) else none
/-- All numbers of things, where each has one. -/
def allIn (b L : List A) : Bool := b.all fun x => decide (idxG x L < L.length)
def codesG (b L : List A) : List Int := if allIn b L then b.map fun x => (idxG x L : Int) else []
/-- The thing with a number. -/
def atG (n : Int) (L : List A) : Option A := if 0 ≤ n then L[n.toNat]? else none
def allAt (cs : List Int) (L : List A) : Bool := cs.all fun n => (atG n L).isSome
def thingsG (cs : List Int) (L : List A) : List A := if allAt cs L then cs.filterMap fun n => atG n L else []
theorem allIn_iff {b L : List A} : allIn b L = true ↔ ∀ x ∈ b, x ∈ L := by
  unfold allIn
  rw [List.all_eq_true]
  exact forall_congr' fun x => forall_congr' fun _ => by rw [decide_eq_true_iff, idxG_mem]
theorem at_code {x : A} {L : List A} (h : x ∈ L) : atG (idxG x L : Int) L = some x := by
  unfold atG
  rw [if_pos (Int.natCast_nonneg _), Int.toNat_natCast]
  exact idxG_at rfl (idxG_mem.2 h)
theorem there_back {b L : List A} (h : ∀ x ∈ b, x ∈ L) : allAt (codesG b L) L = true ∧ thingsG (codesG b L) L = b := by
  have h1 : codesG b L = b.map fun x => (idxG x L : Int) := by unfold codesG; rw [if_pos (allIn_iff.2 h)]
  have h2 : allAt (codesG b L) L = true := by
    rw [h1]
    unfold allAt
    rw [List.all_eq_true]
    intro n hn
    obtain ⟨x, hx, rfl⟩ := List.mem_map.1 hn
    rw [at_code (h x hx)]
    rfl
  refine ⟨h2, ?_⟩
  unfold thingsG
  rw [if_pos h2, h1]
  clear h1 h2
  induction b with
  | nil => rfl
  | cons x b ih =>
    rw [List.map_cons, List.filterMap_cons, at_code (h x (List.mem_cons_self ..))]
    dsimp only
    rw [ih fun y hy => h y (List.mem_cons_of_mem _ hy)]
end
/-- Numbers are in the order of their things. -/
theorem idx_order {A : Type} [DecidableEq A] {lt : A → A → Bool} (hr : Rises lt) {L : List A} (hL : L.Pairwise fun x y => lt x y = true) {x y : A} (hx : x ∈ L) (hy : y ∈ L) : idxG x L < idxG y L ↔ lt x y = true := by
  have ix := idxG_mem.2 hx
  have iy := idxG_mem.2 hy
  have ex := idxG_at (x := x) (l := L) rfl ix
  have ey := idxG_at (x := y) (l := L) rfl iy
  rw [List.getElem?_eq_getElem ix] at ex
  rw [List.getElem?_eq_getElem iy] at ey
  have ex2 := Option.some.inj ex
  have ey2 := Option.some.inj ey
  have hp := List.pairwise_iff_getElem.1 hL
  constructor
  · intro h
    have := hp _ _ ix iy h
    rwa [ex2, ey2] at this
  · intro h
    rcases Nat.lt_trichotomy (idxG x L) (idxG y L) with h1 | h1 | h1
    · exact h1
    · have e : x = y := by
        rw [← ex2, ← ey2]
        congr 1
      rw [e, hr.irr] at h
      cases h
    · have := hp _ _ iy ix h1
      rw [ex2, ey2] at this
      have h2 := hr.tr _ _ _ h this
      rw [hr.irr] at h2
      cases h2

end Go.Proofs.YticglepkbihldaaGreat

/-
  A struct stored whole into a box, in a region that draws. No type is named here.
-/
namespace Go.Proofs.YticglepkbihldaaGreat
open Go.RowKit

theorem put_box {P : Program} {ops : Array Oper} {ty rt : TypeId} {pos : String} {af : Array Edge} {px vx : Operand} {a : Act} {w : World} {K : Act → World → Prop} {Q : Exit → Act → World → Prop} {F : Prop}
    (b o : Nat) (cs : Array Value) (ht : w.there b o cs.size) (hp : a.eval px = .pointer (some ⟨b, o, none⟩)) (hv : a.eval vx = .agg cs) (hi : (P.info? ty).map (·.size) = some cs.size) (h1 : cs.all (·.oneCell') = true)
    (h : K a (w.setCells b o cs.toList)) :
    if Region.wanted { dst := none, op := .store ty px vx, type := rt, pos := pos, after := af, guard := none } (yielded ops a.tmps) = true then Oper.wp P { dst := none, op := .store ty px vx, type := rt, pos := pos, after := af, guard := none } a w K Q else F := by
  rw [if_pos (by rfl)]
  exact wp_store_mid ty px vx rfl b o cs hp hv ht hi h1 h
/-- A box, whole: there to be stored into. -/
theorem Box.there {w : World} {g : Nat} {t : TypeId} {cs : Array Value} (h : Box w g t cs) {n : Nat} (hn : n ≤ cs.size) : w.there g 0 n := fun i hi => by
  refine ⟨?_, h.free _⟩
  rw [h.cell, Nat.zero_add, Array.getElem?_eq_getElem (by omega)]
  rfl
/-- A box stored whole. -/
theorem Box.all {w : World} {g : Nat} {t : TypeId} {cs : Array Value} (h : Box w g t cs) (ds : Array Value) (hd : ds.size = cs.size) : Box (w.setCells g 0 ds.toList) g t ds := by
  have h1 := h.setCells ds.toList 0 cs w (by rw [Array.length_toList]; omega)
  have e : (cs.toList.take 0 ++ ds.toList ++ cs.toList.drop (0 + ds.toList.length)).toArray = ds := by
    rw [List.take_zero, List.nil_append, Nat.zero_add, List.drop_of_length_le (by rw [Array.length_toList, Array.length_toList]; omega), List.append_nil, Array.toArray_toList]
  rwa [e] at h1

section
variable {T : Type} {E : El T} {e : TypeId} {w : World} {ad : Addr} {n c : Nat} {L : List T}
/-- One element stored into a row, in a region that draws nothing. -/
theorem wpList_put {P : Program} {ops : Array Oper} {rest : List Oper} {op : Oper} {a : Act} {Q : Exit → Act → World → Prop} (hgd : op.guard = none) (ty : TypeId) (x y : Operand) (ho : op.op = .store ty x y)
    (hown : OwE E e w (.slice (some ad) n c) L) (j : Nat) (t : T) (hj : j < L.length) (hx : a.eval x = .pointer (some (ad.add (j * E.sz)))) (hy : a.eval y = .agg (E.enc t).toArray) (hi : (P.info? ty).map (·.size) = some E.sz)
    (h : ∀ w', OwE E e w' (.slice (some ad) n c) (L.set j t) → Turn (fun k => k = ad.block) w w' → wpList P ops Q rest (a.put op.dst undef) w') : wpList P ops Q (op :: rest) a w := by
  obtain ⟨cur, ha, -⟩ := hown.home
  have hadd : ad.add (j * E.sz) = ⟨ad.block, ad.off + j * E.sz, none⟩ := by
    obtain ⟨b, o, s⟩ := ad
    simp only [Addr.mk.injEq, true_and] at ha
    obtain ⟨rfl, rfl⟩ := ha
    rw [own_add, Nat.zero_add]
  refine wpList_store_mid hgd ty x y ho ad.block (ad.off + j * E.sz) (E.enc t).toArray (by rw [hx, hadd]) hy (by rw [List.size_toArray, E.len]; exact hown.there hj) (by rw [List.size_toArray, E.len]; exact hi) (all_oneCell_toArray (E.one t)) ?_
  exact h _ (hown.put hj t) (turn_setCells (S := fun k => k = ad.block) rfl _ _ _)
/-- The cells that make lays: so many zeros. -/
theorem made_flat (t : T) (h0 : 0 < E.sz) (N : Nat) : (madeCells (E.enc t).toArray (N * E.sz)).toList = E.flat (List.replicate N t) := by
  refine List.ext_getElem? fun j => ?_
  have hfl : (E.flat (List.replicate N t)).length = N * E.sz := by rw [E.flat_len, List.length_replicate]
  by_cases hj : j < N * E.sz
  · have hm : j % E.sz < E.sz := Nat.mod_lt _ h0
    have hd : j / E.sz < N := Nat.div_lt_of_lt_mul (by rw [Nat.mul_comm]; exact hj)
    have e := E.flat_at (l := List.replicate N t) (j := j / E.sz) (t := t) (by rw [List.getElem?_replicate, if_pos hd]) hm
    rw [Nat.mul_comm, Nat.div_add_mod] at e
    rw [e]
    have hmz : j % E.sz < (E.enc t).length := by rw [E.len]; exact hm
    simp [madeCells, hj, E.len]
    rw [List.getElem?_eq_getElem hmz]
    rfl
  · rw [List.getElem?_eq_none (by rw [Array.length_toList, size_madeCells]; omega), List.getElem?_eq_none (by omega)]
end

end Go.Proofs.YticglepkbihldaaGreat

/-
  Stage 10: what Codes and Things answer; rows of numbers and of things that a call makes.
-/
namespace Go.Proofs.YticglepkbihldaaGreat
open Go.RowKit

/-- Behind Codes, Things. -/
def Codes10 {A : Type} [DecidableEq A] (w : World) (b L : List A) (e : Ending) (w' : World) : Prop := ∃ u, e = .returned (.tuple #[u, .bool (allIn b L)]) ∧ RdE EC10 w' u (codesG b L) ∧ Turn (fun _ => False) w w'
def Things10 {A : Type} [DecidableEq A] (E : El A) (w : World) (cs : List Int) (L : List A) (e : Ending) (w' : World) : Prop := ∃ u, e = .returned (.tuple #[u, .bool (allAt cs L)]) ∧ RdE E w' u (thingsG cs L) ∧ Turn (fun _ => False) w w'

theorem code_info10 : (Tryz.prog.info? 3).map (fun i => (i.zero, i.size, i.bytes)) = some (some (.int .i64 0), EC10.sz, 8) := by kernel_rfl
theorem num_info10 : (Tryz.prog.info? 2).map (fun i => (i.zero, i.size, i.bytes)) = some (some (.int .i64 0), EC10.sz, 8) := by kernel_rfl
theorem num_zero10 : (Value.cells (.int .i64 0)).size = EC10.sz := rfl

/-- A row that make lays, of no elements yet. -/
theorem own_made10 {T : Type} (E : El T) {tS e : TypeId} {z : Value} {by' : Nat} (ht : Tryz.prog.underlying tS = some (.slice e)) (hi0 : (Tryz.prog.info? e).map (fun i => (i.zero, i.size, i.bytes)) = some (some z, E.sz, by')) (hs : E.sz = 1) (hb : by' ≤ 16)
    (N : Nat) (hN : N ≤ 1000000) (w : World) : (Instr.makeSlice tS (.int .i64 0) (.int .i64 (N : Int))).run Tryz.prog w = .ok (.slice (some ⟨w.heap.size, 0, none⟩) 0 N) (w.alloc (.cells (madeCells z.cells N) e)) ∧ OwE E e (w.alloc (.cells (madeCells z.cells N) e)) (.slice (some ⟨w.heap.size, 0, none⟩) 0 N) [] := by
  obtain ⟨i, hi, hz0, h1, h2⟩ := info_parts hi0
  have hNb : N * by' ≤ 1000000 * 16 := Nat.mul_le_mul hN hb
  have h := run_make (P := Tryz.prog) w tS e i _ ht hi hz0 .i64 .i64 0 (N : Int) (Int.le_refl _) (by omega) (by rw [h2]; first | (rw [← Int.natCast_mul, Nat.mul_comm]; omega) | (rw [← Int.natCast_mul]; omega) | (rw [Nat.mul_comm]; omega) | fail) (by omega)
  rw [h1, show ((N : Int)).toNat = N from Int.toNat_natCast N, hs, Nat.mul_one] at h
  exact ⟨h, OwE.of_box (E := E) (L := []) (c := N) (Box.new w _ _) (Nat.zero_le _) (by simp only [maxLen]; omega) (by rw [size_madeCells, hs, Nat.mul_one]) (by simp [El.flat])⟩
theorem made_codes10 (N : Nat) (hN : N ≤ 1000000) (w : World) : (Instr.makeSlice 156 (.int .i64 0) (.int .i64 (N : Int))).run Tryz.prog w = .ok (.slice (some ⟨w.heap.size, 0, none⟩) 0 N) (w.alloc (.cells (madeCells (Value.cells (.int .i64 0)) N) 3)) :=
  (own_made10 EC10 Tryz.underlying156 code_info10 rfl (by decide) N hN w).1
theorem own_codes10 (N : Nat) (hN : N ≤ 1000000) (w : World) : OwE EC10 3 (w.alloc (.cells (madeCells (Value.cells (.int .i64 0)) N) 3)) (.slice (some ⟨w.heap.size, 0, none⟩) 0 N) [] :=
  (own_made10 EC10 Tryz.underlying156 code_info10 rfl (by decide) N hN w).2
theorem made_texts10 (N : Nat) (hN : N ≤ 1000000) (w : World) : (Instr.makeSlice 31 (.int .i64 0) (.int .i64 (N : Int))).run Tryz.prog w = .ok (.slice (some ⟨w.heap.size, 0, none⟩) 0 N) (w.alloc (.cells (madeCells (Value.cells (.string ⟨#[]⟩)) N) 9)) :=
  (own_made10 ET10 Tryz.underlying31 str_info10 rfl (by decide) N hN w).1
theorem own_texts10 (N : Nat) (hN : N ≤ 1000000) (w : World) : OwE ET10 9 (w.alloc (.cells (madeCells (Value.cells (.string ⟨#[]⟩)) N) 9)) (.slice (some ⟨w.heap.size, 0, none⟩) 0 N) [] :=
  (own_made10 ET10 Tryz.underlying31 str_info10 rfl (by decide) N hN w).2

/-- append onto a row of numbers, of texts. -/
theorem wpList_codes10 (w : World) {ops : Array Oper} {rest : List Oper} {o : Oper} {a : Act} {Q : Exit → Act → World → Prop} (hgd : o.guard = none) (s x : Operand)
    (ho : o.op = .call { callee := .builtin .append, args := #[s, x], argTypes := #[156, 156] }) (v : Value) (l : List Int) (hs : a.eval s = v) (hown : OwE EC10 3 w v l)
    (y : Value) (hx : a.eval x = y) (m : List Int) (hy : RdE EC10 w y m) (hl : l.length + m.length ≤ 3000000)
    (h : ∀ A n c w', OwE EC10 3 w' (.slice A n c) (l ++ m) → Turn (fun k => v.ownBlock = some k) w w' → ((Value.slice A n c).ownBlock = v.ownBlock ∨ (Value.slice A n c).ownBlock = some w.heap.size) → wpList Tryz.prog ops Q rest (a.put o.dst (.slice A n c)) w') :
    wpList Tryz.prog ops Q (o :: rest) a w :=
  wpList_appE Tryz.underlying156 code_info10 num_zero10 w hgd s x _ ho v l hs hown y hx m (hy.src Tryz.underlying156) (by simp only [maxLen]; omega) (by omega) h
theorem wpList_texts10 (w : World) {ops : Array Oper} {rest : List Oper} {o : Oper} {a : Act} {Q : Exit → Act → World → Prop} (hgd : o.guard = none) (s x : Operand)
    (ho : o.op = .call { callee := .builtin .append, args := #[s, x], argTypes := #[31, 31] }) (v : Value) (l : List (List UInt8)) (hs : a.eval s = v) (hown : OwE ET10 9 w v l)
    (y : Value) (hx : a.eval x = y) (m : List (List UInt8)) (hy : RdE ET10 w y m) (hl : l.length + m.length ≤ 3000000)
    (h : ∀ A n c w', OwE ET10 9 w' (.slice A n c) (l ++ m) → Turn (fun k => v.ownBlock = some k) w w' → ((Value.slice A n c).ownBlock = v.ownBlock ∨ (Value.slice A n c).ownBlock = some w.heap.size) → wpList Tryz.prog ops Q rest (a.put o.dst (.slice A n c)) w') :
    wpList Tryz.prog ops Q (o :: rest) a w :=
  wpList_appE Tryz.underlying31 str_info10 str_zero10 w hgd s x _ ho v l hs hown y hx m (hy.src Tryz.underlying31) (by simp only [maxLen]; omega) (by omega) h

end Go.Proofs.YticglepkbihldaaGreat
