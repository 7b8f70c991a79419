/-
  Texts laid one behind the other: Ep Dca Dcb Ob Bs Oc Om Od.
-/
import Derived.Test.YticglepkbihldaaGreatJocaa
import Derived.Test.YticglepkbihldaaGreatJocab
import Derived.Deep.QuietTactic
import Derived.BigQuiet
import Derived.Test.YticglepkbihldaaGreatJocac
import Derived.WalkKit
import Derived.WalkSmall
import Derived.Laws.BitsAllLaws

/-
  Plain: a thing put where it belongs, once: lists that rise. No type is named.
-/
namespace Go.Proofs.YticglepkbihldaaGreat

section
variable {A : Type} (lt : A → A → Bool)
/-- How many stand below h at the head. -/
def posG (h : A) : List A → Nat
  | [] => 0
  | x :: t => if lt x h = true then posG h t + 1 else 0
theorem posG_le (h : A) : ∀ l, posG lt h l ≤ l.length
  | [] => Nat.le_refl _
  | x :: t => by
    unfold posG
    split
    · have := posG_le h t
      simp only [List.length_cons]
      omega
    · exact Nat.zero_le _
theorem posG_at (h : A) : ∀ (l : List A) (i : Nat) (y : A), l[i]? = some y → i < posG lt h l → lt y h = true
  | [], i, y, hy, _ => by simp at hy
  | x :: t, i, y, hy, hi => by
    unfold posG at hi
    split at hi
    · rename_i hx
      cases i with
      | zero =>
        have e : x = y := by simpa using hy
        rw [← e]; exact hx
      | succ i => exact posG_at h t i y (by simpa using hy) (by omega)
    · omega
theorem posG_end (h : A) : ∀ (l : List A) (y : A), l[posG lt h l]? = some y → lt y h = false
  | [], y, hy => by simp [posG] at hy
  | x :: t, y, hy => by
    unfold posG at hy
    split at hy
    · exact posG_end h t y (by simpa using hy)
    · rename_i hx
      have e : x = y := by simpa using hy
      rw [← e]; simpa using hx
end
section
variable {A : Type} [DecidableEq A] (lt : A → A → Bool)
/-- A thing put where it belongs, once. -/
def insG (h : A) (l : List A) : List A := if l[posG lt h l]? = some h then l else l.take (posG lt h l) ++ h :: l.drop (posG lt h l)
/-- All things of a list: each once, rising. -/
def setG (l : List A) : List A := l.foldl (fun out x => insG lt x out) []
theorem insG_len (h : A) (l : List A) : (insG lt h l).length ≤ l.length + 1 := by
  unfold insG
  split
  · omega
  · rw [List.length_append, List.length_cons, List.length_take, List.length_drop]
    have := posG_le lt h l
    omega
theorem setG_snoc (l : List A) (x : A) : setG lt (l ++ [x]) = insG lt x (setG lt l) := by
  unfold setG
  rw [List.foldl_append]
  rfl
theorem setG_take {l : List A} {i : Nat} {x : A} (h : l[i]? = some x) : setG lt (l.take (i + 1)) = insG lt x (setG lt (l.take i)) := by
  obtain ⟨h0, e⟩ := List.getElem?_eq_some_iff.1 h
  rw [List.take_succ_eq_append_getElem h0, e, setG_snoc]
theorem setG_len (l : List A) : ∀ i, (setG lt (l.take i)).length ≤ i
  | 0 => by simp [setG]
  | i + 1 => by
    have ih := setG_len l i
    cases h : l[i]? with
    | none => rw [List.take_of_length_le (by have := List.getElem?_eq_none_iff.1 h; omega)]; rw [List.take_of_length_le (by have := List.getElem?_eq_none_iff.1 h; omega)] at ih; omega
    | some x =>
      rw [setG_take lt h]
      have := insG_len lt x (setG lt (l.take i))
      omega
theorem insG_mem (h : A) (l : List A) (x : A) : x ∈ insG lt h l ↔ x = h ∨ x ∈ l := by
  unfold insG
  split
  · rename_i hp
    exact ⟨fun hx => .inr hx, fun hx => hx.elim (fun e => by rw [e]; exact List.mem_of_getElem? hp) id⟩
  · constructor
    · intro hx
      rcases List.mem_append.1 hx with hx | hx
      · exact .inr (List.mem_of_mem_take hx)
      · rcases List.mem_cons.1 hx with hx | hx
        · exact .inl hx
        · exact .inr (List.mem_of_mem_drop hx)
    · intro hx
      rcases hx with rfl | hx
      · exact List.mem_append_right _ (List.mem_cons_self ..)
      · rw [← List.take_append_drop (posG lt h l) l] at hx
        rcases List.mem_append.1 hx with hx | hx
        · exact List.mem_append_left _ hx
        · exact List.mem_append_right _ (List.mem_cons_of_mem _ hx)
theorem insG_rises (hr : Rises lt) (h : A) (l : List A) (hl : l.Pairwise fun x y => lt x y = true) : (insG lt h l).Pairwise fun x y => lt x y = true := by
  unfold insG
  split
  · exact hl
  · rename_i hp
    have ple := posG_le lt h l
    have pat := posG_at lt h l
    have pend := posG_end lt h l
    generalize posG lt h l = p at *
    rw [List.pairwise_append, List.pairwise_cons]
    have ha : ∀ y ∈ l.drop p, lt h y = true := fun y hy => by
      obtain ⟨i, hi, e⟩ := List.getElem_of_mem hy
      have hi2 : p + i < l.length := by rw [List.length_drop] at hi; omega
      rw [List.getElem_drop] at e
      have hpl : p < l.length := by omega
      have h1 := pend l[p] (List.getElem?_eq_getElem hpl)
      have h2 : l[p] ≠ h := fun e => hp (by rw [List.getElem?_eq_getElem hpl, e])
      have h3 : lt h l[p] = true := hr.tot _ _ h2 h1
      by_cases ei : i = 0
      · subst ei
        rw [← e]
        exact h3
      · have h4 := List.pairwise_iff_getElem.1 hl p (p + i) hpl hi2 (by omega)
        rw [e] at h4
        exact hr.tr _ _ _ h3 h4
    have hb : ∀ x ∈ l.take p, lt x h = true := fun x hx => by
      obtain ⟨i, hi, e⟩ := List.getElem_of_mem hx
      have hi2 : i < p := by rw [List.length_take] at hi; omega
      rw [List.getElem_take] at e
      exact pat i x (by rw [List.getElem?_eq_getElem (by omega), e]) hi2
    refine ⟨hl.sublist (List.take_sublist _ _), ⟨ha, hl.sublist (List.drop_sublist _ _)⟩, fun x hx y hy => ?_⟩
    rcases List.mem_cons.1 hy with rfl | hy
    · exact hb x hx
    · exact hr.tr _ _ _ (hb x hx) (ha y hy)
theorem setG_is (hr : Rises lt) (l : List A) : ((setG lt l).Pairwise fun x y => lt x y = true) ∧ ∀ x, x ∈ setG lt l ↔ x ∈ l := by
  have key : ∀ (m acc : List A), (acc.Pairwise fun x y => lt x y = true) → ((m.foldl (fun out x => insG lt x out) acc).Pairwise fun x y => lt x y = true) ∧ ∀ x, x ∈ m.foldl (fun out x => insG lt x out) acc ↔ x ∈ m ∨ x ∈ acc := by
    intro m
    induction m with
    | nil => intro acc h; exact ⟨h, fun x => by simp⟩
    | cons f m ih =>
      intro acc h
      obtain ⟨h1, h2⟩ := ih (insG lt f acc) (insG_rises lt hr _ _ h)
      refine ⟨h1, fun x => ?_⟩
      rw [List.foldl_cons, h2 x, insG_mem, List.mem_cons]
      constructor
      · rintro (h | h | h)
        · exact .inl (.inr h)
        · exact .inl (.inl h)
        · exact .inr h
      · rintro ((h | h) | h)
        · exact .inr (.inl h)
        · exact .inl h
        · exact .inr (.inr h)
  obtain ⟨h1, h2⟩ := key l [] List.Pairwise.nil
  exact ⟨h1, fun x => by unfold setG; rw [h2 x]; simp⟩
end
/-- The place of a thing; as many as there are: it has none. -/
def idxG {A : Type} [DecidableEq A] (x : A) : List A → Nat
  | [] => 0
  | y :: t => if y = x then 0 else idxG x t + 1
theorem idxG_le {A : Type} [DecidableEq A] (x : A) : ∀ l : List A, idxG x l ≤ l.length
  | [] => Nat.le_refl _
  | y :: t => by
    unfold idxG
    split
    · exact Nat.zero_le _
    · have := idxG_le x t; simp only [List.length_cons]; omega
theorem idxG_at {A : Type} [DecidableEq A] {x : A} : ∀ {l : List A} {i : Nat}, idxG x l = i → i < l.length → l[i]? = some x
  | [], i, _, h => absurd h (Nat.not_lt_zero i)
  | y :: t, i, h, hi => by
    unfold idxG at h
    split at h
    · rename_i e
      subst h e
      rfl
    · subst h
      rw [List.getElem?_cons_succ]
      exact idxG_at rfl (by simp only [List.length_cons] at hi; omega)
theorem idxG_below {A : Type} [DecidableEq A] {x : A} : ∀ {l : List A} {i : Nat} {y : A}, i < idxG x l → l[i]? = some y → y ≠ x
  | [], i, y, _, h => by simp at h
  | z :: t, i, y, hi, h => by
    unfold idxG at hi
    split at hi
    · exact absurd hi (Nat.not_lt_zero i)
    · rename_i e
      cases i with
      | zero =>
        have : z = y := by simpa using h
        rw [← this]; exact e
      | succ i => exact idxG_below (l := t) (i := i) (by omega) (by simpa using h)
theorem idxG_mem {A : Type} [DecidableEq A] {x : A} : ∀ {l : List A}, idxG x l < l.length ↔ x ∈ l
  | [] => by simp [idxG]
  | y :: t => by
    unfold idxG
    split
    · rename_i e
      subst e
      simp
    · rename_i e
      rw [List.length_cons, List.mem_cons]
      have := idxG_mem (x := x) (l := t)
      constructor
      · intro h; exact .inr (this.1 (by omega))
      · rintro (h | h)
        · exact absurd h.symm e
        · have := this.2 h; omega

end Go.Proofs.YticglepkbihldaaGreat

/-
  Stage 10: texts in memory; the document's Code and Same.
-/
namespace Go.Proofs.YticglepkbihldaaGreat
open Go.RowKit

set_option maxRecDepth 100000

/-- A text's cell. -/
def ET10 : El (List UInt8) where
  sz := 1
  enc s := [.string ⟨s.toArray⟩]
  len _ := rfl
  one s u hu := by rw [List.mem_singleton.1 hu]; rfl
theorem str_info10 : (Tryz.prog.info? 9).map (fun i => (i.zero, i.size, i.bytes)) = some (some (.string ⟨#[]⟩), ET10.sz, 16) := by kernel_rfl
theorem str_zero10 : (Value.cells (.string ⟨#[]⟩)).size = ET10.sz := rfl
abbrev sv10 (l : List UInt8) : Value := .string ⟨l.toArray⟩
theorem str_at10 {w : World} {A : Option Addr} {n c : Nat} {L : List (List UInt8)} (h : RdE ET10 w (.slice A n c) L) {j : Nat} {x : List UInt8} (hj : L[j]? = some x) :
    ∃ ad, A = some ad ∧ ∀ W, Turn (fun _ => False) w W → W.cell? (ad.add j) = some (sv10 x) := by
  obtain ⟨ad, hA, _⟩ := h.cells hj
  refine ⟨ad, hA, fun W ht => ?_⟩
  obtain ⟨ad', hA', hc⟩ := (h.later ht).cells hj
  rw [hA] at hA'
  cases hA'
  have h1 := hc 0 _ rfl
  rwa [show j * ET10.sz + 0 = j from by simp [ET10]] at h1

/-- The number of a text; -1: it has none. -/
def codeT (x : List UInt8) (l : List (List UInt8)) : Int := if idxG x l < l.length then (idxG x l : Int) else -1

set_option maxHeartbeats 4000000 in
theorem ref_code10 (v : Value) (l : List (List UInt8)) (x : List UInt8) (w : World) (hv : RdE ET10 w v l) (hl : l.length ≤ 1000000) : Calls Tryz.prog 60 #[v, sv10 x] w fun e w' => e = .returned (.int .i64 (codeT x l)) ∧ w' = w := by
  have HV := Lib.hid hv
  obtain ⟨A, c, rfl⟩ := hv.shape
  clear hv
  have HC : Hid (codeT x l = if idxG x l < l.length then (idxG x l : Int) else -1) := rfl
  have hle := idxG_le x l
  have HAT := Lib.hid (fun (h : idxG x l < l.length) => idxG_at (x := x) (l := l) rfl h)
  have HBL : Hid (∀ i y, i < idxG x l → l[i]? = some y → y ≠ x) := fun i y h1 h2 => idxG_below h1 h2
  generalize codeT x l = cv at *
  generalize idxG x l = p at *
  unfold sv10
  go_enter Tryz.func60, Tryz.ntmps60
  go_wp2_with fail
  go_loopw [5] (fun x5 wr => wr = w ∧ ∃ i : Nat, x5 = .int .i64 (i : Int) ∧ i ≤ p) (fun x5 _ => p + 1 - (intOf x5).toNat)
  case atStart => exact ⟨rfl, 0, rfl, Nat.zero_le _⟩
  case round =>
    obtain ⟨rfl, i, rfl, hi⟩ := hrel
    by_cases hlt : i < l.length
    · obtain ⟨y, hy⟩ : ∃ y, l[i]? = some y := ⟨_, List.getElem?_eq_getElem hlt⟩
      obtain ⟨ad, rfl, hc⟩ := str_at10 HV.out hy
      have e0 := hc _ (Turn.refl _ _)
      have hil : (i : Int) < l.length := by omega
      unfold sv10 at e0
      by_cases hip : i < p
      · have hne : (y == x) = false := by simpa using HBL.out i y hip hy
        clear hc hy
        go_wp2_with fail
        go_roundw
        case rel => exact ⟨trivial, i + 1, by go_num, hip⟩
        case measure => simp [intOf]; omega
      · obtain rfl : i = p := by omega
        have e2 := HAT.out hlt
        rw [hy] at e2
        obtain rfl : y = x := by simpa using e2
        have hee : (y == y) = true := beq_self_eq_true y
        have HC2 : Hid (cv = (i : Int)) := HC.out.trans (if_pos hlt)
        clear hc hy e2
        go_wp2_with fail
        go_ret
        rw [HC2.out]
        exact ⟨rfl, rfl⟩
    · have hil : ¬ ((i : Int) < l.length) := by omega
      have HC2 : Hid (cv = -1) := HC.out.trans (if_neg (by omega))
      go_wp2
      go_ret
      rw [HC2.out]
      exact ⟨rfl, rfl⟩

set_option maxHeartbeats 4000000 in
theorem same_refl10 (a b : Value) (L : List (List UInt8)) (w : World) (ha : RdE ET10 w a L) (hb : RdE ET10 w b L) (hl : L.length ≤ 1000000) :
    Calls Tryz.prog 11 #[a, b] w fun e w' => e = .returned (.bool true) ∧ Turn (fun _ => False) w w' := by
  have HA := Lib.hid ha; have HB := Lib.hid hb
  obtain ⟨A, c, rfl⟩ := ha.shape
  obtain ⟨B, d, rfl⟩ := hb.shape
  clear ha hb
  go_enter Tryz.func11, Tryz.ntmps11
  go_wp2_with fail
  go_loopw [5] (fun x5 wr => ∃ i : Nat, x5 = .int .i64 (i : Int) ∧ i ≤ L.length ∧ ∃ n, wr = w.drewN n) (fun x5 _ => L.length - (intOf x5).toNat)
  case atStart => exact ⟨0, rfl, Nat.zero_le _, 0, rfl⟩
  case round =>
    obtain ⟨i, rfl, hi, n, rfl⟩ := hrel
    by_cases hlt : i < L.length
    · obtain ⟨x, hx⟩ : ∃ x, L[i]? = some x := ⟨_, List.getElem?_eq_getElem hlt⟩
      obtain ⟨ad, rfl, hc⟩ := str_at10 HA.out hx
      obtain ⟨bd, rfl, hd⟩ := str_at10 HB.out hx
      have e0 := hc w (Turn.refl _ _)
      have e2 := hd w (Turn.refl _ _)
      unfold sv10 at e0 e2
      have hee : (x == x) = true := beq_self_eq_true x
      clear hc hd hx
      have hil : (i : Int) < L.length := by omega
      go_wp2_with fail
      go_quiet (fail)
      go_wp2
      go_roundw
      case rel => exact ⟨i + 1, by go_num, hlt, n + nq, by simp [World.drewN]⟩
      case measure => simp [intOf]; omega
    · obtain rfl : i = L.length := by omega
      go_wp2
      go_ret
      exact ⟨rfl, (Turn.refl _ w).drewN _⟩

end Go.Proofs.YticglepkbihldaaGreat

/-
  Stage 10: the document's Of.
-/
namespace Go.Proofs.YticglepkbihldaaGreat
open Go.RowKit

set_option maxRecDepth 100000

/-- All texts of a list: each once, rising. -/
def ofT (l : List (List UInt8)) : List (List UInt8) := setG Op.bytesLess l
/-- Behind a list laid in new memory. -/
def Texts10 (w : World) (l : List (List UInt8)) (e : Ending) (w' : World) : Prop := ∃ v, e = .returned v ∧ RdE ET10 w' v l ∧ Turn (fun _ => False) w w'

set_option maxHeartbeats 8000000 in
theorem ref_of10 (v : Value) (l : List (List UInt8)) (w : World) (hv : RdE ET10 w v l) (hl : l.length ≤ 20000) : Calls Tryz.prog 27 #[v] w fun e w' => Texts10 w (ofT l) e w' := by
  have HV := Lib.hid hv
  obtain ⟨A, c, rfl⟩ := hv.shape
  clear hv
  have HN0 : Hid (RdE ET10 w (.slice none 0 0) (ofT (l.take 0)) ∧ Turn (fun _ => False) w w) := ⟨RdE.nil w, Turn.refl _ w⟩
  have hE : ∀ W, (Instr.buildSlice 31 0 #[]).run Tryz.prog W = .ok (.slice (some ⟨W.heap.size, 0, none⟩) 0 0) (W.alloc (.cells #[] 9)) := fun W => by go_simp
  have hX : ∀ (h : List UInt8) W, (Instr.buildSlice 31 1 #[(0, sv10 h)]).run Tryz.prog W = .ok (.slice (some ⟨W.heap.size, 0, none⟩) 1 1) (W.alloc (.cells (ET10.enc h).toArray 9)) := fun h W => by go_simp; rfl
  have HE := Lib.hid hE
  have HX := Lib.hid hX
  have hz : (Tryz.prog.info? 9).map (·.size) = some ET10.sz := by kernel_rfl
  have HZ := Lib.hid hz
  clear hE hX hz
  go_enter Tryz.func27, Tryz.ntmps27
  go_wp2_with fail
  go_loopw [3, 4] (fun x3 x4 wr => ∃ i : Nat, x4 = .int .i64 (i : Int) ∧ i ≤ l.length ∧ RdE ET10 wr x3 (ofT (l.take i)) ∧ Turn (fun _ => False) w wr) (fun _ x4 _ => l.length - (intOf x4).toNat)
  case atStart => exact ⟨0, rfl, Nat.zero_le _, HN0.out⟩
  case round =>
    obtain ⟨i, rfl, hi, hm, ht⟩ := hrel
    have HM := Lib.hid hm
    have HT := Lib.hid ht
    have hln : (ofT (l.take i)).length ≤ i := setG_len _ l i
    by_cases hlt : i < l.length
    · obtain ⟨h, hf⟩ : ∃ h, l[i]? = some h := ⟨_, List.getElem?_eq_getElem hlt⟩
      obtain ⟨ad, rfl, hc⟩ := str_at10 HV.out hf
      have HC := Lib.hid hc
      have hil : (i : Int) < l.length := by omega
      have HTK : Hid (ofT (l.take (i + 1)) = insG Op.bytesLess h (ofT (l.take i))) := setG_take _ hf
      generalize hO : ofT (l.take i) = O at *
      obtain ⟨B, d, hv⟩ := hm.shape
      subst hv
      have hfit := hm.fits
      have hp1 : Hid (∀ i y, O[i]? = some y → i < posG Op.bytesLess h O → Op.bytesLess y h = true) := posG_at _ h O
      have hp2 : Hid (∀ y, O[posG Op.bytesLess h O]? = some y → Op.bytesLess y h = false) := posG_end _ h O
      have hple := posG_le Op.bytesLess h O
      have HIN : Hid (insG Op.bytesLess h O = if O[posG Op.bytesLess h O]? = some h then O else O.take (posG Op.bytesLess h O) ++ h :: O.drop (posG Op.bytesLess h O)) := rfl
      generalize hP : posG Op.bytesLess h O = p at *
      have HT0 := Lib.hid ht
      clear hc hf hm ht hO hP
      obtain ⟨wo, hwo⟩ : ∃ wo, wo = wr := ⟨_, rfl⟩
      subst hwo
      go_wp2_with fail
      go_loopw [5] (fun x5 wk => Turn (fun _ => False) wo wk ∧ ∃ k : Nat, x5 = .int .i64 (k : Int) ∧ k ≤ p) (fun x5 _ => p - (intOf x5).toNat)
      case atStart => exact ⟨Turn.refl _ _, 0, rfl, Nat.zero_le _⟩
      case round =>
        obtain ⟨htk, k, rfl, hk⟩ := hrel
        have HTW := Lib.hid htk
        have HMW := Lib.hid (HM.out.later htk)
        have c0 := HC.out wr (HT0.out.trans htk (fun _ _ f => f))
        unfold sv10 at c0
        clear htk
        by_cases hkp : k < p
        · obtain ⟨y, hy⟩ : ∃ y, O[k]? = some y := ⟨_, List.getElem?_eq_getElem (by omega)⟩
          obtain ⟨bd, rfl, hc⟩ := str_at10 HMW.out hy
          have e1 := hc _ (Turn.refl _ _)
          unfold sv10 at e1
          have hyh := hp1.out k y hy hkp
          have hkO : (k : Int) < O.length := by omega
          clear hc hy
          go_wp2_with fail
          go_quiet (fail)
          go_wp2
          go_roundw
          case rel => exact ⟨HTW.out.drewN _, k + 1, by go_num, hkp⟩
          case measure => simp [intOf]; omega
        · obtain rfl : k = p := by omega
          have hkc : k ≤ d := by omega
          by_cases hpl : k < O.length
          · obtain ⟨y, hy⟩ : ∃ y, O[k]? = some y := ⟨_, List.getElem?_eq_getElem hpl⟩
            obtain ⟨bd, rfl, hc⟩ := str_at10 HMW.out hy
            have e1 := hc _ (Turn.refl _ _)
            unfold sv10 at e1
            have hyh := hp2.out y hy
            have hkO : (k : Int) < O.length := by omega
            have hke : ((k : Int) == (O.length : Int)) = false := by simp; omega
            clear hc
            by_cases hyy : y = h
            · have HR3 : Hid (RdE ET10 wo (.slice (some bd) O.length d) (ofT (l.take (i + 1)))) := by rw [HTK.out, HIN.out, if_pos (by rw [hy, hyy])]; exact HM.out
              clear hy
              subst hyy
              have hee : (y == y) = true := beq_self_eq_true y
              go_wp2_with fail
              go_quiet (fail)
              go_wp2_with fail
              go_quiet (fail)
              go_wp2
              go_roundw
              case rel => exact ⟨i + 1, by go_num, hlt, HR3.out.later (HTW.out.drewN _), (HT0.out.trans HTW.out (fun _ _ f => f)).drewN _⟩
              case measure => simp [intOf]; omega
            · have HNE : Hid (¬ O[k]? = some h) := by rw [hy]; exact fun e => hyy (Option.some.inj e)
              have hyb : (y == h) = false := by simpa using hyy
              clear hy hyy
              obtain ⟨B, hB⟩ : ∃ B, B = some bd := ⟨_, rfl⟩
              rw [← hB] at HM HMW ⊢
              go_wp2_with fail
              go_quiet (fail)
              obtain ⟨q1, hq1⟩ : ∃ q1, q1 = nq := ⟨_, rfl⟩
              subst hq1
              go_wp2_with fail
              go_quiet (fail)
              go_wp2_with fail
              refine drawn_region (fun W => Turn (fun _ => False) wo W) [] (by kernel_rfl) ?_
              have ht0 : Turn (fun _ => False) wo (World.drew ((wr.drewN q1).drewN nq)) := ((HTW.out.drewN _).drewN _).drew
              generalize World.drew ((wr.drewN q1).drewN nq) = wd at *
              have hS0 := ht0
              clear ht0
              refine drawn_take 1 45 (.slice B O.length d) rfl rfl (by kernel_rfl) (by kernel_rfl) (by kernel_rfl) (by kernel_rfl) (fun _ _ _ h => h) (by rfl) (by assumption) (by intro w hSw; obtain hS1 := hSw; go_simp) ?_
              try simp only [List.setIfInBounds_toArray, List.set_cons_zero, List.set_cons_succ]
              refine drawn_take 2 46 (.int .i64 (k : Int)) rfl rfl (by kernel_rfl) (by kernel_rfl) (by kernel_rfl) (by kernel_rfl) (fun _ _ _ h => h) (by rfl) (by assumption) (by intro w hSw; obtain hS1 := hSw; go_simp) ?_
              try simp only [List.setIfInBounds_toArray, List.set_cons_zero, List.set_cons_succ]
              refine drawn_take 3 47 (.slice B k d) rfl rfl (by kernel_rfl) (by kernel_rfl) (by kernel_rfl) (by kernel_rfl) (fun _ _ _ h => h) (by rfl) (by assumption) (fun w _ => exec_front (E := ET10) rfl rfl rfl Tryz.underlying31 HZ.out hkc w) ?_
              try simp only [List.setIfInBounds_toArray, List.set_cons_zero, List.set_cons_succ]
              refine drawn_take 5 49 (.slice (some ad) l.length c) rfl rfl (by kernel_rfl) (by kernel_rfl) (by kernel_rfl) (by kernel_rfl) (fun _ _ _ h => h) (by rfl) (by assumption) (by intro w hSw; obtain hS1 := hSw; go_simp) ?_
              try simp only [List.setIfInBounds_toArray, List.set_cons_zero, List.set_cons_succ]
              refine drawn_take 6 50 (.int .i64 (i : Int)) rfl rfl (by kernel_rfl) (by kernel_rfl) (by kernel_rfl) (by kernel_rfl) (fun _ _ _ h => h) (by rfl) (by assumption) (by intro w hSw; obtain hS1 := hSw; go_simp) ?_
              try simp only [List.setIfInBounds_toArray, List.set_cons_zero, List.set_cons_succ]
              refine drawn_take 7 51 (.pointer (some (ad.add i))) rfl rfl (by kernel_rfl) (by kernel_rfl) (by kernel_rfl) (by kernel_rfl) (fun _ _ _ h => h) (by rfl) (by assumption) (by intro w hSw; obtain hS1 := hSw; go_simp) ?_
              try simp only [List.setIfInBounds_toArray, List.set_cons_zero, List.set_cons_succ]
              refine drawn_take 8 52 (sv10 h) rfl rfl (by kernel_rfl) (by kernel_rfl) (by kernel_rfl) (by kernel_rfl) (fun _ _ _ h => h) (by rfl) (by assumption) (by intro w hSw; have c1 := HC.out w (HT0.out.trans hSw (fun _ _ f => f)); unfold sv10 at c1; go_simp) ?_
              try simp only [List.setIfInBounds_toArray, List.set_cons_zero, List.set_cons_succ]
              refine drawn_take 11 55 (.slice B O.length d) rfl rfl (by kernel_rfl) (by kernel_rfl) (by kernel_rfl) (by kernel_rfl) (fun _ _ _ h => h) (by rfl) (by assumption) (by intro w hSw; obtain hS1 := hSw; go_simp) ?_
              try simp only [List.setIfInBounds_toArray, List.set_cons_zero, List.set_cons_succ]
              refine drawn_take 12 56 (.int .i64 (k : Int)) rfl rfl (by kernel_rfl) (by kernel_rfl) (by kernel_rfl) (by kernel_rfl) (fun _ _ _ h => h) (by rfl) (by assumption) (by intro w hSw; obtain hS1 := hSw; go_simp) ?_
              try simp only [List.setIfInBounds_toArray, List.set_cons_zero, List.set_cons_succ]
              refine drawn_take 13 57 (tailV ET10 B O.length d k) rfl rfl (by kernel_rfl) (by kernel_rfl) (by kernel_rfl) (by kernel_rfl) (fun _ _ _ h => h) (by rfl) (by assumption) (fun w _ => exec_tail (E := ET10) rfl rfl rfl Tryz.underlying31 HZ.out hple w) ?_
              try simp only [List.setIfInBounds_toArray, List.set_cons_zero, List.set_cons_succ]
              refine drawn_ins (E := ET10) (l1 := O.take k) (l3 := O.drop k) (x := h) Tryz.underlying31 str_info10 str_zero10 (by omega) (fun W h => h) 0 4 9 10 14 44 48 53 54 58 47 52 57 rfl rfl rfl rfl rfl rfl rfl rfl rfl rfl rfl rfl rfl rfl rfl rfl rfl rfl rfl rfl
                (by kernel_rfl) (by kernel_rfl) (by kernel_rfl) (by kernel_rfl) (by kernel_rfl) (by kernel_rfl) (by kernel_rfl) (by simp) rfl rfl rfl (fun W ht => (HM.out.later ht).front k hple) (fun W ht => rd_tailV (HM.out.later ht) hple) (by simp; omega) HE.out (HX.out h) hS0 ?_
              intro W v a b c d hn
              try simp only [List.setIfInBounds_toArray, List.set_cons_zero, List.set_cons_succ]
              refine drawn_last1 15 3 v rfl rfl (by kernel_rfl) (by kernel_rfl) (by rfl) (by intro w; go_simp) hn.turn ?_
              try simp only [List.setIfInBounds_toArray, List.set_cons_zero, List.set_cons_succ]
              have HR3 : Hid (RdE ET10 W v (ofT (l.take (i + 1))) ∧ Turn (fun _ => False) w W) := ⟨by rw [HTK.out, HIN.out, if_neg HNE.out]; exact hn.own.rd, HT0.out.trans hn.turn (fun _ _ f => f)⟩
              clear hn hS0
              go_wp2
              go_roundw
              case rel => exact ⟨i + 1, by go_num, hlt, HR3.out⟩
              case measure => simp [intOf]; omega
          · have hkO : ¬ ((k : Int) < O.length) := by omega
            have HNE : Hid (¬ O[k]? = some h) := by rw [List.getElem?_eq_none (by omega)]; exact fun e => by cases e
            have hke : ((k : Int) == (O.length : Int)) = true := by simp; omega
            have hkl : k = O.length := by omega
            go_wp2_with fail
            go_quiet (fail)
            obtain ⟨q1, hq1⟩ : ∃ q1, q1 = nq := ⟨_, rfl⟩
            subst hq1
            go_wp2_with fail
            go_quiet (fail)
            go_wp2_with fail
            refine drawn_region (fun W => Turn (fun _ => False) wo W) [] (by kernel_rfl) ?_
            have ht0 : Turn (fun _ => False) wo (World.drew ((wr.drewN q1).drewN nq)) := ((HTW.out.drewN _).drewN _).drew
            generalize World.drew ((wr.drewN q1).drewN nq) = wd at *
            have hS0 := ht0
            clear ht0
            refine drawn_take 1 45 (.slice B O.length d) rfl rfl (by kernel_rfl) (by kernel_rfl) (by kernel_rfl) (by kernel_rfl) (fun _ _ _ h => h) (by rfl) (by assumption) (by intro w hSw; obtain hS1 := hSw; go_simp) ?_
            try simp only [List.setIfInBounds_toArray, List.set_cons_zero, List.set_cons_succ]
            refine drawn_take 2 46 (.int .i64 (k : Int)) rfl rfl (by kernel_rfl) (by kernel_rfl) (by kernel_rfl) (by kernel_rfl) (fun _ _ _ h => h) (by rfl) (by assumption) (by intro w hSw; obtain hS1 := hSw; go_simp) ?_
            try simp only [List.setIfInBounds_toArray, List.set_cons_zero, List.set_cons_succ]
            refine drawn_take 3 47 (.slice B k d) rfl rfl (by kernel_rfl) (by kernel_rfl) (by kernel_rfl) (by kernel_rfl) (fun _ _ _ h => h) (by rfl) (by assumption) (fun w _ => exec_front (E := ET10) rfl rfl rfl Tryz.underlying31 HZ.out hkc w) ?_
            try simp only [List.setIfInBounds_toArray, List.set_cons_zero, List.set_cons_succ]
            refine drawn_take 5 49 (.slice (some ad) l.length c) rfl rfl (by kernel_rfl) (by kernel_rfl) (by kernel_rfl) (by kernel_rfl) (fun _ _ _ h => h) (by rfl) (by assumption) (by intro w hSw; obtain hS1 := hSw; go_simp) ?_
            try simp only [List.setIfInBounds_toArray, List.set_cons_zero, List.set_cons_succ]
            refine drawn_take 6 50 (.int .i64 (i : Int)) rfl rfl (by kernel_rfl) (by kernel_rfl) (by kernel_rfl) (by kernel_rfl) (fun _ _ _ h => h) (by rfl) (by assumption) (by intro w hSw; obtain hS1 := hSw; go_simp) ?_
            try simp only [List.setIfInBounds_toArray, List.set_cons_zero, List.set_cons_succ]
            refine drawn_take 7 51 (.pointer (some (ad.add i))) rfl rfl (by kernel_rfl) (by kernel_rfl) (by kernel_rfl) (by kernel_rfl) (fun _ _ _ h => h) (by rfl) (by assumption) (by intro w hSw; obtain hS1 := hSw; go_simp) ?_
            try simp only [List.setIfInBounds_toArray, List.set_cons_zero, List.set_cons_succ]
            refine drawn_take 8 52 (sv10 h) rfl rfl (by kernel_rfl) (by kernel_rfl) (by kernel_rfl) (by kernel_rfl) (fun _ _ _ h => h) (by rfl) (by assumption) (by intro w hSw; have c1 := HC.out w (HT0.out.trans hSw (fun _ _ f => f)); unfold sv10 at c1; go_simp) ?_
            try simp only [List.setIfInBounds_toArray, List.set_cons_zero, List.set_cons_succ]
            refine drawn_take 11 55 (.slice B O.length d) rfl rfl (by kernel_rfl) (by kernel_rfl) (by kernel_rfl) (by kernel_rfl) (fun _ _ _ h => h) (by rfl) (by assumption) (by intro w hSw; obtain hS1 := hSw; go_simp) ?_
            try simp only [List.setIfInBounds_toArray, List.set_cons_zero, List.set_cons_succ]
            refine drawn_take 12 56 (.int .i64 (k : Int)) rfl rfl (by kernel_rfl) (by kernel_rfl) (by kernel_rfl) (by kernel_rfl) (fun _ _ _ h => h) (by rfl) (by assumption) (by intro w hSw; obtain hS1 := hSw; go_simp) ?_
            try simp only [List.setIfInBounds_toArray, List.set_cons_zero, List.set_cons_succ]
            refine drawn_take 13 57 (tailV ET10 B O.length d k) rfl rfl (by kernel_rfl) (by kernel_rfl) (by kernel_rfl) (by kernel_rfl) (fun _ _ _ h => h) (by rfl) (by assumption) (fun w _ => exec_tail (E := ET10) rfl rfl rfl Tryz.underlying31 HZ.out hple w) ?_
            try simp only [List.setIfInBounds_toArray, List.set_cons_zero, List.set_cons_succ]
            refine drawn_ins (E := ET10) (l1 := O.take k) (l3 := O.drop k) (x := h) Tryz.underlying31 str_info10 str_zero10 (by omega) (fun W h => h) 0 4 9 10 14 44 48 53 54 58 47 52 57 rfl rfl rfl rfl rfl rfl rfl rfl rfl rfl rfl rfl rfl rfl rfl rfl rfl rfl rfl rfl
              (by kernel_rfl) (by kernel_rfl) (by kernel_rfl) (by kernel_rfl) (by kernel_rfl) (by kernel_rfl) (by kernel_rfl) (by simp) rfl rfl rfl (fun W ht => (HM.out.later ht).front k hple) (fun W ht => rd_tailV (HM.out.later ht) hple) (by simp; omega) HE.out (HX.out h) hS0 ?_
            intro W v a b c d hn
            try simp only [List.setIfInBounds_toArray, List.set_cons_zero, List.set_cons_succ]
            refine drawn_last1 15 3 v rfl rfl (by kernel_rfl) (by kernel_rfl) (by rfl) (by intro w; go_simp) hn.turn ?_
            try simp only [List.setIfInBounds_toArray, List.set_cons_zero, List.set_cons_succ]
            have HR3 : Hid (RdE ET10 W v (ofT (l.take (i + 1))) ∧ Turn (fun _ => False) w W) := ⟨by rw [HTK.out, HIN.out, if_neg HNE.out]; exact hn.own.rd, HT0.out.trans hn.turn (fun _ _ f => f)⟩
            clear hn hS0
            go_wp2
            go_roundw
            case rel => exact ⟨i + 1, by go_num, hlt, HR3.out⟩
            case measure => simp [intOf]; omega
    · obtain rfl : i = l.length := by omega
      have HM2 := HM.out
      rw [List.take_length] at HM2
      go_wp2
      go_ret
      exact ⟨_, rfl, HM2, HT.out⟩

end Go.Proofs.YticglepkbihldaaGreat

/-
  The writer: its bytes, and what its calls put behind.
-/
namespace Go.Proofs.YticglepkbihldaaGreat
open Go.RowKit

/-- A byte that is not a number's last one. -/
def mid (n : Nat) : UInt8 := UInt8.ofNat (n % 128 + 128)
theorem mid_toNat (n : Nat) : (mid n).toNat = n % 128 + 128 := by
  unfold mid
  rw [UInt8.toNat_ofNat']
  omega
def low (n : Nat) : UInt8 := UInt8.ofNat n
theorem low_toNat (n : Nat) (h : n < 256) : (low n).toNat = n := by
  unfold low
  rw [UInt8.toNat_ofNat']
  omega

def encF : Nat → Nat → List UInt8
  | 0, n => [low n]
  | k + 1, n => if n < 128 then [low n] else mid n :: encF k (n / 128)
/-- The bytes of a number. -/
def enc (n : Nat) : List UInt8 := encF 9 n

/-- A writer in block p, whose one cell is the slice v, of bytes l. -/
def Wr (w : World) (p : Nat) (v : Value) (l : List UInt8) : Prop := Box w p 62 #[v] ∧ By w v l

/-- Behind a call on a writer: it has bytes l' now; nothing but its own blocks has turned, and its row is the one that it was, or new. -/
def Put (w : World) (p : Nat) (v : Value) (w' : World) (v' : Value) (l' : List UInt8) : Prop :=
  Wr w' p v' l' ∧ Turn (fun k => k = p ∨ v.ownBlock = some k) w w' ∧ (v'.ownBlock = v.ownBlock ∨ ∀ k, v'.ownBlock = some k → w.heap.size ≤ k)

theorem Put.refl {w : World} {p : Nat} {v : Value} {l : List UInt8} (h : Wr w p v l) : Put w p v w v l := ⟨h, Turn.refl _ _, .inl rfl⟩

theorem Put.trans {a b c : World} {p : Nat} {v u s : Value} {l m : List UInt8} (h : Put a p v b u l) (g : Put b p u c s m) : Put a p v c s m := by
  obtain ⟨_, t1, m1⟩ := h
  obtain ⟨w2, t2, m2⟩ := g
  refine ⟨w2, t1.trans t2 ?_, ?_⟩
  · rintro k hk (rfl | hu)
    · exact .inl rfl
    · rcases m1 with e | e
      · exact .inr (e ▸ hu)
      · exact absurd (e k hu) (by omega)
  · rcases m2 with e | e
    · rw [e]; exact m1
    · exact .inr fun k hk => Nat.le_trans t1.size (e k hk)

/-- One append, stored back into the writer's cell. -/
theorem put_step0 {w w1 : World} {p : Nat} {u : Value} {acc news : List UInt8} {A : Option Addr} {n c : Nat} (h : Wr w p u acc) (hby : By w1 (.slice A n c) (acc ++ news))
    (hg : w.grownBy w1 u.ownBlock) (hat : (Value.slice A n c).ownBlock = u.ownBlock ∨ (Value.slice A n c).ownBlock = some w.heap.size) :
    Put w p u (w1.setCell ⟨p, 0, none⟩ (.slice A n c)) (.slice A n c) (acc ++ news) := by
  obtain ⟨hb, hu⟩ := h
  have hne : u.ownBlock ≠ some p := hu.ne_box hb (by decide)
  have hb1 : Box w1 p 62 #[u] := hb.grown hg (fun e => hne e.symm)
  have hne1 : (Value.slice A n c).ownBlock ≠ some p := hby.ne_box hb1 (by decide)
  have t1 : Turn (fun k => k = p ∨ u.ownBlock = some k) w w1 := (Turn.refl _ w).grown hg (fun k _ e => .inr e)
  refine ⟨⟨by simpa using hb1.set 0 (.slice A n c), ?_⟩, t1.setCell (p := ⟨p, 0, none⟩) (fun _ => .inl rfl) _, ?_⟩
  · exact hby.turn ((Turn.refl (fun k => k = p) w1).setCell (p := ⟨p, 0, none⟩) (fun _ => rfl) _) (fun k hk e => hne1 (by subst e; exact hk))
  · rcases hat with e | e
    · exact .inl e
    · refine .inr fun k hk => ?_
      rw [e] at hk
      simp at hk
      omega

theorem writer_far0 {w : World} {p : Nat} {u : Value} {acc : List UInt8} (h : Wr w p u acc) (w1 : World) (hg : w.grownBy w1 u.ownBlock) :
    w1.cell? ⟨p, 0, none⟩ = some u ∧ w1.frozen? ⟨p, 0, none⟩ = false := by
  have hb1 : Box w1 p 62 #[u] := h.1.grown hg (fun e => h.2.ne_box h.1 (by decide) e.symm)
  exact ⟨hb1.cell 0, hb1.free 0⟩

/-- One append, stored back into the writer's cell. -/
theorem put_step {w w1 : World} {p : Nat} {u : Value} {acc news : List UInt8} {A : Option Addr} {n c : Nat} {o : Obj} (h : Wr w p u acc) (hby : By w1 (.slice A n c) (acc ++ news))
    (hg : (w.alloc o).grownBy w1 u.ownBlock) (hat : (Value.slice A n c).ownBlock = u.ownBlock ∨ (Value.slice A n c).ownBlock = some (w.heap.size + 1)) :
    Put w p u (w1.setCell ⟨p, 0, none⟩ (.slice A n c)) (.slice A n c) (acc ++ news) := by
  obtain ⟨hb, hu⟩ := h
  have hne : u.ownBlock ≠ some p := hu.ne_box hb (by decide)
  have hb1 : Box w1 p 62 #[u] := (hb.alloc o).grown hg (fun e => hne e.symm)
  have hne1 : (Value.slice A n c).ownBlock ≠ some p := hby.ne_box hb1 (by decide)
  have t1 : Turn (fun k => k = p ∨ u.ownBlock = some k) w w1 := ((Turn.refl _ w).alloc o).grown hg (fun k _ e => .inr e)
  refine ⟨⟨by simpa using hb1.set 0 (.slice A n c), ?_⟩, t1.setCell (p := ⟨p, 0, none⟩) (fun _ => .inl rfl) _, ?_⟩
  · exact hby.turn ((Turn.refl (fun k => k = p) w1).setCell (p := ⟨p, 0, none⟩) (fun _ => rfl) _) (fun k hk e => hne1 (by subst e; exact hk))
  · rcases hat with e | e
    · exact .inl e
    · refine .inr fun k hk => ?_
      rw [e] at hk
      simp at hk
      omega

theorem writer_far {w : World} {p : Nat} {u : Value} {acc : List UInt8} (h : Wr w p u acc) (w1 : World) (hw : ∃ o, (w.alloc o).grownBy w1 u.ownBlock) :
    w1.cell? ⟨p, 0, none⟩ = some u ∧ w1.frozen? ⟨p, 0, none⟩ = false := by
  obtain ⟨o, hg⟩ := hw
  have hb1 : Box w1 p 62 #[u] := (h.1.alloc o).grown hg (fun e => h.2.ne_box h.1 (by decide) e.symm)
  exact ⟨hb1.cell 0, hb1.free 0⟩

def NumRel (p : Nat) (v : Value) (l : List UInt8) (n : Nat) (w : World) (m : Value) (wr : World) (k r : Nat) (u : Value) (acc : List UInt8) : Prop :=
  m = .int .u64 r ∧ r < 128 ^ (k + 1) ∧ k ≤ 9 ∧ acc.length + k ≤ l.length + 9 ∧ acc ++ encF k r = l ++ enc n ∧ Put w p v wr u acc

theorem num_bound (n : Nat) (hn : Hid (n < 18446744073709551616)) : n < 128 ^ (9 + 1) := by
  have h : n < 18446744073709551616 := hn
  omega

theorem num_start (p : Nat) (v : Value) (l : List UInt8) (n : Nat) (w : World) (hw : Wr w p v l) (hn : Hid (n < 18446744073709551616)) : NumRel p v l n w (.int .u64 n) w 9 n v l := by
  unfold NumRel enc
  exact ⟨rfl, num_bound n hn, Nat.le_refl _, Nat.le_refl _, rfl, Put.refl hw⟩

theorem or_128 (r : Nat) : bits BinOp.or IntKind.u8 ((r : Int) % 256) 128 = ((mid r).toNat : Int) := by
  have h1 : ((r : Int) % 256) = ((r % 256 : Nat) : Int) := by omega
  have h := u8_or_nat (r % 256) 128 (by omega) (by omega)
  rw [h1]
  refine h.trans ?_
  have e : r % 256 ||| 128 = r % 128 + 128 := by
    have : ∀ x : Fin 256, x.val ||| 128 = x.val % 128 + 128 := by decide +kernel
    have := this ⟨r % 256, by omega⟩
    simp only at this
    rw [this]
    omega
  rw [e, mid_toNat]

theorem num_last {p : Nat} {v : Value} {l : List UInt8} {n : Nat} {w wr w1 : World} {k r : Nat} {u : Value} {acc : List UInt8} {A : Option Addr} {m c : Nat} {o : Obj} (h : r < 128)
    (henc : acc ++ encF k r = l ++ enc n) (hput : Put w p v wr u acc) (hby : By w1 (.slice A m c) (acc ++ [low r])) (hg : (wr.alloc o).grownBy w1 u.ownBlock)
    (hat : (Value.slice A m c).ownBlock = u.ownBlock ∨ (Value.slice A m c).ownBlock = some (wr.heap.size + 1)) :
    ∃ v', Put w p v (w1.setCell ⟨p, 0, none⟩ (.slice A m c)) v' (l ++ enc n) := by
  have h2 := hput.trans (put_step hput.1 hby hg hat)
  have e : encF k r = [low r] := by
    cases k with
    | zero => rfl
    | succ k => simp [encF, h]
  rw [e] at henc
  rw [← henc]
  exact ⟨_, h2⟩

theorem num_round {p : Nat} {v : Value} {l : List UInt8} {n : Nat} {w wr w1 : World} {k r : Nat} {u : Value} {acc : List UInt8} {A : Option Addr} {m c : Nat} {o : Obj} (h : ¬ r < 128)
    (hr : r < 128 ^ (k + 1)) (hk : k ≤ 9) (hlen : acc.length + k ≤ l.length + 9)
    (henc : acc ++ encF k r = l ++ enc n) (hput : Put w p v wr u acc) (hby : By w1 (.slice A m c) (acc ++ [mid r])) (hg : (wr.alloc o).grownBy w1 u.ownBlock)
    (hat : (Value.slice A m c).ownBlock = u.ownBlock ∨ (Value.slice A m c).ownBlock = some (wr.heap.size + 1)) :
    ∃ k' r' u' acc', NumRel p v l n w (.int .u64 ((r : Int) / 128)) (w1.setCell ⟨p, 0, none⟩ (.slice A m c)) k' r' u' acc' := by
  cases k with
  | zero => exact absurd hr (by simp; omega)
  | succ k =>
    refine ⟨k, r / 128, _, _, ?_, ?_, by omega, ?_, ?_, hput.trans (put_step hput.1 hby hg hat)⟩
    · congr 1
    · rw [Nat.div_lt_iff_lt_mul (by omega)]
      rw [Nat.pow_succ] at hr
      exact hr
    · simp only [List.length_append, List.length_cons, List.length_nil]; omega
    · rw [← henc]
      simp [encF, h]

set_option maxRecDepth 100000 in
set_option maxHeartbeats 400000 in
theorem num_put (p : Nat) (v : Value) (l : List UInt8) (n : Nat) (w : World) (hw : Wr w p v l) (hn : Hid (n < 18446744073709551616)) (hl : l.length ≤ 1000000) :
    Calls Tryz.prog 28 #[.pointer (some ⟨p, 0, none⟩), .int .u64 n] w fun e w' => e = .returned (.pointer (some ⟨p, 0, none⟩)) ∧
      ∃ v', Put w p v w' v' (l ++ enc n) := by
  go_enter Tryz.func28, Tryz.ntmps28
  go_wp2
  go_loopw [1] (fun m wr => ∃ (k r : Nat) (u : Value) (acc : List UInt8), NumRel p v l n w m wr k r u acc) (fun m _ => (intOf m).toNat)
  case atStart => exact ⟨_, _, _, _, num_start p v l n w hw hn⟩
  case round =>
    obtain ⟨k, r, u, acc, rfl, hr, hk, hlen, henc, hput⟩ := hrel
    have hc : wr.cell? ⟨p, 0, none⟩ = some u := hput.1.1.cell 0
    have hf : wr.frozen? ⟨p, 0, none⟩ = false := hput.1.1.free 0
    have hor := or_128 r
    have HR := Lib.hid hr; clear hr
    have HE := Lib.hid henc; clear henc
    have HW := Lib.hid hput; clear hput
    have HL := Lib.hid hlen; clear hlen
    have hfar : ∀ w1 : World, (∃ o, (wr.alloc o).grownBy w1 u.ownBlock) → w1.cell? ⟨p, 0, none⟩ = some u ∧ w1.frozen? ⟨p, 0, none⟩ = false := writer_far HW.out.1
    have HF := Lib.hid hfar; clear hfar
    by_cases h128 : r < 128
    · go_wp2_with (at_builtin; go_must (refine wpList_app _ rfl _ _ _ rfl u acc rfl (HW.out.1.2.alloc _) _ rfl [low r] (yields_one wr _ _ (by rw [low_toNat r (by omega)])) (by have := HL.out; simp; omega) ?_))
      intro A m c w1 hby hg hat
      have hc1 := (HF.out w1 ⟨_, hg⟩).1
      have hf1 := (HF.out w1 ⟨_, hg⟩).2
      have HB := Lib.hid (num_last h128 HE.out HW.out hby hg hat); clear hby hg hat
      go_wp2
      go_ret
      exact ⟨rfl, HB.out⟩
    · go_wp2_with (at_builtin; go_must (refine wpList_app _ rfl _ _ _ rfl u acc rfl (HW.out.1.2.alloc _) _ rfl [mid r] (yields_one wr _ _ rfl) (by have := HL.out; simp; omega) ?_))
      intro A m c w1 hby hg hat
      have hc1 := (HF.out w1 ⟨_, hg⟩).1
      have hf1 := (HF.out w1 ⟨_, hg⟩).2
      have HB := Lib.hid (num_round h128 HR.out hk HL.out HE.out HW.out hby hg hat); clear hby hg hat
      go_wp2
      go_roundw
      case rel => exact HB.out
      case measure => simp [intOf]; omega
end Go.Proofs.YticglepkbihldaaGreat

/-
  Two rows of bytes held against each other.
-/
namespace Go.Proofs.YticglepkbihldaaGreat
open Go.RowKit

set_option maxRecDepth 100000 in
set_option maxHeartbeats 400000 in
theorem same_any (u v : Value) (l m : List UInt8) (w : World) (hu : Rd w u l) (hv : Rd w v m) :
    Calls Tryz.prog 16 #[u, v] w fun e w' => e = .returned (.bool (l == m)) ∧ w = w' := by
  have h1 := hu.string
  have h2 := hv.string
  obtain ⟨A, c, rfl, _⟩ := hu
  obtain ⟨B, d, rfl, _⟩ := hv
  go_enter Tryz.func16, Tryz.ntmps16
  go_wp2
  go_ret
  exact ⟨rfl, rfl⟩

end Go.Proofs.YticglepkbihldaaGreat

/-
  Copies, and what else is said of a writer.
-/
namespace Go.Proofs.YticglepkbihldaaGreat
open Go.RowKit

set_option maxRecDepth 100000 in
set_option maxHeartbeats 400000 in
theorem clone_any (v : Value) (l : List UInt8) (w : World) (hv : Rd w v l) (hl : l.length ≤ 1000000) :
    Calls Tryz.prog 57 #[v] w fun e w' => ∃ v', e = .returned v' ∧ By w' v' l ∧ Turn (fun _ => False) w w' ∧ ∀ k, v'.ownBlock = some k → w.heap.size ≤ k := by
  obtain ⟨A, c, rfl, hk, hn, hc⟩ := hv
  cases A with
  | none =>
    obtain ⟨rfl, rfl⟩ := hn rfl
    clear hn hc
    have heq := fun (w : World) => Lib.run_eql_slice_nil (P := Tryz.prog) w 35 5 none 0 0 0 0 Tryz.underlying35
    go_enter Tryz.func57, Tryz.ntmps57
    go_wp2
    go_ret
    exact ⟨_, rfl, By.nil _, Turn.refl _ _, fun _ h => by cases h⟩
  | some ad =>
    have heq := fun (w : World) => Lib.run_eql_slice_nil (P := Tryz.prog) w 35 5 (some ad) l.length c 0 0 Tryz.underlying35
    have hY : ∀ o, Yields (w.alloc o) 35 (.slice (some ad) l.length c) l := fun o => by
      refine Rd.yields (Rd.turn (w := w) ⟨_, _, rfl, hk, hn, hc⟩ ((Turn.refl (fun _ => False) w).alloc o) (fun _ _ f => f))
    clear hn hc
    have HY := Lib.hid hY; clear hY
    go_enter Tryz.func57, Tryz.ntmps57
    go_wp2_with (at_builtin; go_must (refine wpList_app _ rfl _ _ _ rfl _ [] rfl (By.empty w) _ rfl l (HY.out _) (by simp; omega) ?_))
    intro A' n' c' w1 hby hg hat
    have HB := Lib.hid hby; clear hby
    have HG := Lib.hid hg; clear hg
    have HA := Lib.hid hat; clear hat
    go_wp2
    go_ret
    refine ⟨.slice A' n' c', rfl, HB.out, ((Turn.refl _ w).alloc _).grown HG.out ?_, ?_⟩
    · intro k hk e
      simp [Value.ownBlock] at e
      omega
    · intro k hk
      rcases HA.out with e | e
      · rw [e] at hk
        simp [Value.ownBlock] at hk
        omega
      · rw [e] at hk
        simp at hk
        omega

set_option maxRecDepth 100000 in
set_option maxHeartbeats 400000 in
theorem bytes_any (p : Nat) (v : Value) (l : List UInt8) (w : World) (hw : Wr w p v l) (hl : l.length ≤ 1000000) :
    Calls Tryz.prog 33 #[.pointer (some ⟨p, 0, none⟩)] w fun e w' => ∃ v', e = .returned v' ∧ By w' v' l ∧ Turn (fun _ => False) w w' ∧ ∀ k, v'.ownBlock = some k → w.heap.size ≤ k := by
  have hc : w.cell? ⟨p, 0, none⟩ = some v := hw.1.cell 0
  have HR := Lib.hid hw.2.rd
  clear hw
  go_enter Tryz.func33, Tryz.ntmps33
  go_wp2_with (go_at_call 57; refine (clone_any v l w HR.out hl).mono ?_; rintro e w' ⟨v', rfl, hb, ht, hk⟩; have HB := Lib.hid hb; clear hb; have HT := Lib.hid ht; clear ht; have HK := Lib.hid hk; clear hk)
  go_ret
  exact ⟨_, rfl, HB.out, HT.out, HK.out⟩

set_option maxRecDepth 100000 in
set_option maxHeartbeats 400000 in
theorem len_any (p : Nat) (v : Value) (l : List UInt8) (w : World) (hw : Wr w p v l) :
    Calls Tryz.prog 31 #[.pointer (some ⟨p, 0, none⟩)] w fun e w' => e = .returned (.int .i64 l.length) ∧ w = w' := by
  obtain ⟨A, c, hv, _⟩ := hw.2.rd
  subst hv
  have hc : w.cell? ⟨p, 0, none⟩ = some (.slice A l.length c) := hw.1.cell 0
  clear hw
  go_enter Tryz.func31, Tryz.ntmps31
  go_wp2
  go_ret
  exact ⟨rfl, rfl⟩

end Go.Proofs.YticglepkbihldaaGreat

/-
  Plain facts on numbers: bits, turned numbers, groups of seven bits.
-/
namespace Go.Proofs.YticglepkbihldaaGreat
open Go.RowKit

/-- A number turned, so that one near 0 is small. -/
def zig (n : Int) : Nat := if 0 ≤ n then (2 * n).toNat else (-2 * n - 1).toNat
/-- .. and turned back. -/
def zag (n : Nat) : Int := if n % 2 = 0 then ((n / 2 : Nat) : Int) else -((n / 2 : Nat) : Int) - 1

theorem zag_zig (n : Int) : zag (zig n) = n := by
  unfold zag zig
  split <;> split <;> omega

theorem zig_lt (n : Int) (h1 : Hid (-9223372036854775808 ≤ n)) (h2 : Hid (n ≤ 9223372036854775807)) : zig n < 18446744073709551616 := by
  have a : -9223372036854775808 ≤ n := h1
  have b : n ≤ 9223372036854775807 := h2
  unfold zig
  split <;> omega

theorem xor_ones (a : Nat) (h : a < 18446744073709551616) : bits BinOp.xor IntKind.u64 (a : Int) 18446744073709551615 = ((18446744073709551615 - a : Nat) : Int) := by
  show IntKind.u64.wrap ((BitVec.ofInt 64 (a : Int) ^^^ BitVec.ofInt 64 18446744073709551615).toNat : Int) = _
  have h1 : BitVec.ofInt 64 18446744073709551615 = BitVec.allOnes 64 := by decide +kernel
  rw [h1, BitVec.xor_allOnes, BitVec.toNat_not, ofInt_u64 a h, IntKind.wrap_u64]
  omega

theorem turn_val (n : Int) (h1 : Hid (-9223372036854775808 ≤ n)) (h2 : Hid (n ≤ 9223372036854775807)) :
    bits BinOp.xor IntKind.u64 (IntKind.u64.wrap (IntKind.u64.wrap n * 2)) (IntKind.u64.wrap (n / 9223372036854775808)) = (zig n : Int) := by
  have a : -9223372036854775808 ≤ n := h1
  have b : n ≤ 9223372036854775807 := h2
  by_cases h : 0 ≤ n
  · have e0 : n / 9223372036854775808 = 0 := by omega
    have e1 : IntKind.u64.wrap (n / 9223372036854775808) = ((0 : Nat) : Int) := by rw [e0, IntKind.wrap_u64]; omega
    have e2 : IntKind.u64.wrap (IntKind.u64.wrap n * 2) = (((2 * n).toNat : Nat) : Int) := by rw [IntKind.wrap_u64, IntKind.wrap_u64]; omega
    rw [e1, e2, u64_xor_nat _ _ (by omega) (by omega), Nat.xor_zero]
    unfold zig
    rw [if_pos h]
  · have e0 : n / 9223372036854775808 = -1 := by omega
    have e1 : IntKind.u64.wrap (n / 9223372036854775808) = 18446744073709551615 := by rw [e0, IntKind.wrap_u64]; omega
    have e2 : IntKind.u64.wrap (IntKind.u64.wrap n * 2) = (((2 * n + 18446744073709551616).toNat : Nat) : Int) := by rw [IntKind.wrap_u64, IntKind.wrap_u64]; omega
    rw [e1, e2, xor_ones _ (by omega)]
    unfold zig
    rw [if_neg h]
    omega

theorem i64_xor_ones (a : Nat) (h : a < 9223372036854775808) : bits BinOp.xor IntKind.i64 (a : Int) (-1) = -(a : Int) - 1 := by
  show IntKind.i64.wrap ((BitVec.ofInt 64 (a : Int) ^^^ BitVec.ofInt 64 (-1)).toNat : Int) = _
  have h1 : BitVec.ofInt 64 (-1) = BitVec.allOnes 64 := by decide
  rw [h1, BitVec.xor_allOnes, BitVec.toNat_not, ofInt_u64 a (by omega)]
  simp [IntKind.wrap, IntKind.bits, IntKind.signed]
  omega

theorem i64_xor_zero (a : Nat) (h : a < 9223372036854775808) : bits BinOp.xor IntKind.i64 (a : Int) 0 = (a : Int) := by
  show IntKind.i64.wrap ((BitVec.ofInt 64 (a : Int) ^^^ BitVec.ofInt 64 0).toNat : Int) = _
  have h1 : BitVec.ofInt 64 0 = 0#64 := by decide
  rw [h1, BitVec.xor_zero, ofInt_u64 a (by omega)]
  simp [IntKind.wrap, IntKind.bits, IntKind.signed]
  omega

theorem back_val (n : Nat) (h1 : Hid (n < 18446744073709551616)) :
    bits BinOp.xor IntKind.i64 (wrap64 ((n : Int) / 2)) (wrap64 (-wrap64 (bits BinOp.and IntKind.u64 (n : Int) 1))) = zag n := by
  have a : n < 18446744073709551616 := h1
  rw [and_one_u64 (n : Int) (by omega) (by omega)]
  have e1 : wrap64 ((n : Int) / 2) = ((n / 2 : Nat) : Int) := by unfold wrap64; omega
  have e2 : wrap64 (-wrap64 ((n : Int) % 2)) = -((n : Int) % 2) := by unfold wrap64; omega
  rw [e1, e2]
  unfold zag
  split
  · have e3 : -((n : Int) % 2) = 0 := by omega
    rw [e3, i64_xor_zero _ (by omega)]
  · have e3 : -((n : Int) % 2) = -1 := by omega
    rw [e3, i64_xor_ones _ (by omega)]

theorem pow_7 (i : Nat) : (2 : Int) ^ (7 * i) = ((128 ^ i : Nat) : Int) := by
  rw [Int.pow_mul]
  simp

theorem pow_le (i : Nat) (h : i ≤ 9) : 128 ^ i ≤ 9223372036854775808 := by
  have := Nat.pow_le_pow_right (n := 128) (by omega) h
  have e : (128 : Nat) ^ 9 = 9223372036854775808 := by decide +kernel
  omega

theorem or_val (acc c i : Nat) (hi : i ≤ 9) (hacc : acc < 128 ^ i) (hb : c * 128 ^ i < 18446744073709551616) :
    bits BinOp.or IntKind.u64 (acc : Int) (IntKind.u64.wrap ((c : Int) * 2 ^ (7 * i))) = ((acc + c * 128 ^ i : Nat) : Int) := by
  have hp := pow_le i hi
  have e : IntKind.u64.wrap ((c : Int) * 2 ^ (7 * i)) = ((c * 128 ^ i : Nat) : Int) := by
    rw [pow_7, ← Int.natCast_mul, IntKind.wrap_u64]
    omega
  rw [e, bits_or_u64_nat _ _ (by omega) hb]
  have h2 : (128 : Nat) ^ i = 2 ^ (7 * i) := by rw [Nat.pow_mul]
  rw [h2] at hacc ⊢
  have := Nat.shiftLeft_add_eq_or_of_lt hacc c
  rw [Nat.shiftLeft_eq] at this
  rw [Nat.or_comm, ← this, Nat.add_comm]

theorem or_mid (acc x i : Nat) (hx : 128 ≤ x) (hx2 : x < 256) (hi : i ≤ 8) (hacc : acc < 128 ^ i) :
    bits BinOp.or IntKind.u64 (acc : Int) (IntKind.u64.wrap (((x : Int) - 128) * 2 ^ (7 * i))) = ((acc + (x - 128) * 128 ^ i : Nat) : Int) ∧ acc + (x - 128) * 128 ^ i < 128 ^ (i + 1) := by
  have e : ((x : Int) - 128) = ((x - 128 : Nat) : Int) := by omega
  have h1 : (x - 128) * 128 ^ i ≤ 127 * 128 ^ i := Nat.mul_le_mul_right _ (by omega)
  have h2 := pow_le (i + 1) (by omega)
  rw [Nat.pow_succ] at h2 ⊢
  rw [e]
  exact ⟨or_val acc (x - 128) i (by omega) hacc (by omega), by omega⟩

end Go.Proofs.YticglepkbihldaaGreat

/-
  Numbers with a sign, texts and flags, as the program and as the document put them.
-/
namespace Go.Proofs.YticglepkbihldaaGreat
open Go.RowKit


set_option maxRecDepth 100000 in
set_option maxHeartbeats 400000 in
theorem turn_any (n : Int) (w : World) (h1 : Hid (-9223372036854775808 ≤ n)) (h2 : Hid (n ≤ 9223372036854775807)) :
    Calls Tryz.prog 94 #[.int .i64 n] w fun e w' => e = .returned (.int .u64 (zig n)) ∧ w = w' := by
  go_enter Tryz.func94, Tryz.ntmps94
  go_wp2
  go_ret
  exact ⟨ret_int (turn_val n h1 h2), rfl⟩

set_option maxRecDepth 100000 in
set_option maxHeartbeats 400000 in
theorem back_any (n : Nat) (w : World) (h1 : Hid (n < 18446744073709551616)) :
    Calls Tryz.prog 140 #[.int .u64 n] w fun e w' => e = .returned (.int .i64 (zag n)) ∧ w = w' := by
  go_enter Tryz.func140, Tryz.ntmps140
  go_wp2
  go_ret
  exact ⟨ret_int (back_val n h1), rfl⟩

set_option maxRecDepth 100000 in
set_option maxHeartbeats 400000 in
theorem int_put (p : Nat) (v : Value) (l : List UInt8) (n : Int) (w : World) (hw : Wr w p v l) (h1 : Hid (-9223372036854775808 ≤ n)) (h2 : Hid (n ≤ 9223372036854775807)) (hl : l.length ≤ 1000000) :
    Calls Tryz.prog 53 #[.pointer (some ⟨p, 0, none⟩), .int .i64 n] w fun e w' => e = .returned (.pointer (some ⟨p, 0, none⟩)) ∧
      ∃ v', Put w p v w' v' (l ++ enc (zig n)) := by
  have HW := Lib.hid hw; clear hw
  go_enter Tryz.func53, Tryz.ntmps53
  go_wp2_with (first
    | (go_at_call 94; refine (turn_any n w h1 h2).mono ?_; rintro e w' ⟨rfl, rfl⟩)
    | (go_at_call 28; refine (num_put p v l (zig n) w HW.out (zig_lt n h1 h2) hl).mono ?_; rintro e w' ⟨rfl, hp⟩; have HP := Lib.hid hp; clear hp))
  go_ret
  exact ⟨rfl, HP.out⟩

end Go.Proofs.YticglepkbihldaaGreat
