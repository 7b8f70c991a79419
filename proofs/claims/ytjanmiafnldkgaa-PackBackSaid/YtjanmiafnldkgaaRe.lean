/-
  One thing read by both readers; and what is read of what was put, whole or cut.
-/
import Derived.Test.YtjanmiafnldkgaaRc
import Derived.Test.YtjanmiafnldkgaaQb
import Derived.Deep.RegionWith
namespace Go.Proofs.Ytjanmiafnldkgaa
open Go.RowKit

/-- The fault, and how many bytes are taken, of a thing of x's kind. -/
def rdKind (x : PD) (d : List UInt8) : Nat × Nat :=
  if x.K = 1 then (rdNum d).2 else if x.K = 2 then (rdNum d).2 else if x.K = 3 then (rdText 60 d).2 else (rdFlag d).2

/-- Where a reader is behind such a read. -/
def rstep (x : PD) (l : List UInt8) (k f : Nat) : Nat × Nat :=
  if f ≠ 0 then (k, f) else if (rdKind x (l.drop k)).1 = 0 then (k + (rdKind x (l.drop k)).2, 0) else (k, (rdKind x (l.drop k)).1)

theorem rk1 {x : PD} (h : x.K = 1) (d : List UInt8) : rdKind x d = (rdNum d).2 := by unfold rdKind; rw [if_pos h]
theorem rk2 {x : PD} (h : x.K = 2) (d : List UInt8) : rdKind x d = (rdNum d).2 := by unfold rdKind; rw [if_neg (by omega), if_pos h]
theorem rk3 {x : PD} (h : x.K = 3) (d : List UInt8) : rdKind x d = (rdText 60 d).2 := by unfold rdKind; rw [if_neg (by omega), if_neg (by omega), if_pos h]
theorem rk4 {x : PD} (h : x.K = 4) (d : List UInt8) : rdKind x d = (rdFlag d).2 := by unfold rdKind; rw [if_neg (by omega), if_neg (by omega), if_neg (by omega)]

theorem got_step {p : Nat} {v : Value} {l : List UInt8} {k f : Nat} {w : World} {none val : Value} {c f1 : Nat} {e : Ending} {w' : World} {x : PD} (h : Got p v l k f w none val (k + c) f1 e w') (hr : rdKind x (l.drop k) = (f1, c)) :
    Moved w p v l w' (rstep x l k f).1 (rstep x l k f).2 := by
  unfold rstep
  rw [hr]
  by_cases hf : f = 0
  · rw [if_neg (by omega)]
    by_cases h1 : f1 = 0
    · rw [if_pos h1]
      exact ((h.1 hf).1 h1).2
    · rw [if_neg h1]
      exact ((h.1 hf).2 h1).2
  · rw [if_pos hf]
    exact (h.2 hf).2

theorem text_len (s : ByteArray) : s.data.toList.length = s.size := by rw [Array.length_toList]; rfl

theorem rdText_enc (s : ByteArray) (rest : List UInt8) (h : s.size ≤ 60) : rdText 60 (enc s.size ++ s.data.toList ++ rest) = (s.data.toList, 0, (enc s.size ++ s.data.toList).length) := by
  have hn := rdNum_enc s.size (s.data.toList ++ rest) (hid_small _ (by omega))
  rw [← List.append_assoc] at hn
  have hc : rdCount 60 (enc s.size ++ s.data.toList ++ rest) = (s.size, 0, (enc s.size).length) := by
    unfold rdCount
    rw [hn, if_neg (by simp), if_neg (by simp; omega)]
  have hd : (enc s.size ++ s.data.toList ++ rest).drop (enc s.size).length = s.data.toList ++ rest := by
    rw [List.append_assoc]
    exact List.drop_left
  unfold rdText
  rw [hc, if_neg (by simp)]
  simp only
  rw [hd, if_neg (by rw [List.length_append, text_len]; omega)]
  refine Prod.ext ?_ (Prod.ext rfl ?_)
  · show (s.data.toList ++ rest).take s.size = s.data.toList
    rw [← text_len]
    exact List.take_left
  · show (enc s.size).length + s.size = (enc s.size ++ s.data.toList).length
    rw [List.length_append, text_len]

theorem rdText_cut (s : ByteArray) (m : Nat) (h : s.size ≤ 60) (hm : m < (enc s.size ++ s.data.toList).length) : (rdText 60 ((enc s.size ++ s.data.toList).take m)).2.1 = 3 := by
  by_cases h1 : m < (enc s.size).length
  · have e : (enc s.size ++ s.data.toList).take m = (enc s.size).take m := by
      rw [List.take_append_of_le_length (by omega)]
    have hc : rdCount 60 ((enc s.size).take m) = (0, 3, m) := by
      unfold rdCount
      rw [rdNum_cut s.size m h1, if_pos (by simp)]
    rw [e]
    unfold rdText
    rw [hc, if_pos (by simp)]
  · have e : (enc s.size ++ s.data.toList).take m = enc s.size ++ s.data.toList.take (m - (enc s.size).length) := by
      rw [List.take_append, List.take_of_length_le (by omega)]
    have hn := rdNum_enc s.size (s.data.toList.take (m - (enc s.size).length)) (hid_small _ (by omega))
    have hc : rdCount 60 (enc s.size ++ s.data.toList.take (m - (enc s.size).length)) = (s.size, 0, (enc s.size).length) := by
      unfold rdCount
      rw [hn, if_neg (by simp), if_neg (by simp; omega)]
    have hd : (enc s.size ++ s.data.toList.take (m - (enc s.size).length)).drop (enc s.size).length = s.data.toList.take (m - (enc s.size).length) := List.drop_left
    rw [e]
    unfold rdText
    rw [hc, if_neg (by simp)]
    simp only
    rw [List.length_append, text_len] at hm
    rw [hd, if_pos (by rw [List.length_take, text_len]; omega)]

theorem flag_enc (b : Bool) : enc b.toNat = [low b.toNat] := enc_small _ (by cases b <;> simp)

theorem rk_full (x : PD) (rest : List UInt8) (hK : 1 ≤ x.K ∧ x.K ≤ 4) (hf : PD.Fit x) (hT : x.T.size ≤ 60) : rdKind x (formL x ++ rest) = (0, (formL x).length) := by
  obtain ⟨hN, hS1, hS2, _⟩ := hf
  by_cases h1 : x.K = 1
  · rw [rk1 h1, formL_num (.inl h1), rdNum_enc _ _ hN]
  by_cases h2 : x.K = 2
  · rw [rk2 h2, formL_int h2, rdNum_enc _ _ (zig_lt _ hS1 hS2)]
  by_cases h3 : x.K = 3
  · rw [rk3 h3, formL_text h3, rdText_enc _ _ hT]
  have h4 : x.K = 4 := by omega
  rw [rk4 h4, formL_bool h4, flag_enc]
  cases x.B <;> rfl

theorem rk_cut (x : PD) (m : Nat) (hK : 1 ≤ x.K ∧ x.K ≤ 4) (hT : x.T.size ≤ 60) (hm : m < (formL x).length) : (rdKind x ((formL x).take m)).1 = 3 := by
  by_cases h1 : x.K = 1
  · rw [formL_num (.inl h1)] at hm ⊢
    rw [rk1 h1, rdNum_cut _ _ hm]
  by_cases h2 : x.K = 2
  · rw [formL_int h2] at hm ⊢
    rw [rk2 h2, rdNum_cut _ _ hm]
  by_cases h3 : x.K = 3
  · rw [formL_text h3] at hm ⊢
    rw [rk3 h3, rdText_cut _ _ hT hm]
  have h4 : x.K = 4 := by omega
  rw [formL_bool h4, flag_enc] at hm ⊢
  rw [rk4 h4]
  have e : m = 0 := by simpa using hm
  subst e
  rfl

/-- Behind one thing read by both. -/
def OnePost (p q B : Nat) (v : Value) (l : List UInt8) (k f : Nat) (x : PD) (w : World) (e : Ending) (w' : World) : Prop :=
  (∃ b, e = .returned (.bool b)) ∧ Rdr w' p v l (rstep x l k f).1 (rstep x l k f).2 ∧ (∃ A c m g, XRd w' q B A c m g) ∧ Turn (fun g => g = p ∨ g = q) w w'

theorem XRd.turn {w w' : World} {q B : Nat} {A : Option Addr} {c : Nat} {m : List UInt8} {f : Nat} {S : Nat → Prop} (h : XRd w q B A c m f) (ht : Turn S w w') (h1 : ¬ S q) (h2 : ¬ S B) : XRd w' q B A c m f :=
  ⟨h.1.turn ht h1, h.2.1.turn ht (fun g hg e => h2 (h.2.2.1.1 g hg ▸ e)), h.2.2⟩

theorem one_end {p q B : Nat} {v : Value} {l : List UInt8} {k f : Nat} {x : PD} {w w1 w2 w3 : World} {b : Bool} {t : List UInt8} {g : Nat} (h1 : Turn (fun _ => False) w w1) (hm : Moved w1 p v l w2 (rstep x l k f).1 (rstep x l k f).2) (hx : XM w2 q B w3 t g)
    (hpq : p ≠ q) (hv : ∀ g, v.ownBlock = some g → g ≠ q) : OnePost p q B v l k f x w (.returned (.bool b)) w3 := by
  obtain ⟨⟨A, c, hx1⟩, hx2⟩ := hx
  refine ⟨⟨b, rfl⟩, hm.1.turn hx2 hpq hv, ⟨A, c, t, g, hx1⟩, ?_⟩
  refine (h1.mono (fun _ _ f => f.elim)).trans ?_ (fun _ _ s => s) 
  exact (hm.2.mono (fun _ _ e => .inl e)).trans hx2 (fun _ _ e => .inr e)

theorem got_form {p : Nat} {v : Value} {l : List UInt8} {k f : Nat} {w : World} {none val : Value} {c f1 : Nat} {e : Ending} {w' : World} {Q : Value → Prop} (h : Got p v l k f w none val c f1 e w') (h1 : Q none) (h2 : Q val) : ∃ y, e = .returned y ∧ Q y := by
  by_cases hf : f = 0
  · by_cases h0 : f1 = 0
    · exact ⟨_, ((h.1 hf).1 h0).1, h2⟩
    · exact ⟨_, ((h.1 hf).2 h0).1, h1⟩
  · exact ⟨_, (h.2 hf).1, h1⟩

theorem xpost_form {q B : Nat} {m : List UInt8} {f : Nat} {w : World} {none val : Value} {t : List UInt8} {f1 : Nat} {e : Ending} {w' : World} {Q : Value → Prop} (h : XPost q B m f w none val t f1 e w') (h1 : Q none) (h2 : Q val) :
    ∃ y, e = .returned y ∧ Q y ∧ ∃ t' g, XM w q B w' t' g := by
  by_cases hf : f = 0
  · exact ⟨_, (h.1 hf).1, h2, _, _, (h.1 hf).2⟩
  · exact ⟨_, (h.2 hf).1, h1, _, _, (h.2 hf).2⟩

def IsI (k : IntKind) (v : Value) : Prop := ∃ z, v = .int k z
def IsB (v : Value) : Prop := ∃ z, v = .bool z
def IsS (v : Value) : Prop := ∃ z, v = .string z

theorem text_late {p q B : Nat} {v : Value} {l : List UInt8} {k f : Nat} {A : Option Addr} {c : Nat} {m : List UInt8} {g : Nat} {w : World} (hr : Rdr w p v l k f) (hx : XRd w q B A c m g) (hpq : p ≠ q) (hpB : p ≠ B) (x : PD) (hK : x.K = 3) :
    ∀ W, Turn (fun _ => False) w W → W.cell? ⟨w.heap.size, 1, none⟩ = some (.int .i64 60) → Calls Try.prog 22 #[.pointer (some ⟨p, 0, none⟩), .int .i64 60] W fun e w1 =>
      ∃ z, e = .returned (.string z) ∧ (Moved W p v l w1 (rstep x l k f).1 (rstep x l k f).2 ∧ Turn (fun _ => False) w W) ∧ XRd w1 q B A c m g ∧ w1.cell? ⟨w.heap.size, 1, none⟩ = some (.int .i64 60) := by
  intro W ht hc
  refine (rtext p v l k f W 60 (by omega) (hr.turn ht (fun f => f) (fun _ _ f => f))).mono ?_
  intro e w1 hg
  obtain ⟨y, rfl, z, rfl⟩ := got_form (Q := IsS) hg ⟨_, rfl⟩ ⟨_, rfl⟩
  have hm := got_step (x := x) hg (rk3 hK _)
  have hp : p < w.heap.size := hr.1.lt
  refine ⟨z, rfl, ⟨hm, ht⟩, (hx.turn ht (fun f => f) (fun f => f)).turn hm.2 (fun e => hpq e.symm) (fun e => hpB e.symm), ?_⟩
  have hlt := World.block_lt_of_cell? W _ hc
  exact (hm.2.cell (p := ⟨w.heap.size, 1, none⟩) hlt (fun e => by have e : w.heap.size = p := e; omega)).trans hc

theorem xtext_late (q B : Nat) : ∀ (A : Option Addr) (c : Nat) (m : List UInt8) (g : Nat) (W : World), XRd W q B A c m g → Calls Try.prog 44 #[.pointer (some ⟨q, 0, none⟩), .int .i64 60] W fun e w2 =>
    ∃ z, e = .returned (.string z) ∧ ∃ t g', XM W q B w2 t g' := by
  intro A c m g W h
  refine (xtext q B A c m g 60 (by omega) W h).mono ?_
  intro e w2 hg
  obtain ⟨y, rfl, ⟨z, rfl⟩, t, g2, hxm⟩ := xpost_form (Q := IsS) hg ⟨_, rfl⟩ ⟨_, rfl⟩
  exact ⟨z, rfl, t, g2, hxm⟩

set_option maxRecDepth 100000 in
set_option maxHeartbeats 2000000 in
theorem one_any (p q B : Nat) (v : Value) (l : List UInt8) (k f : Nat) (A : Option Addr) (c : Nat) (m : List UInt8) (g : Nat) (x : PD) (w : World) (hr : Rdr w p v l k f) (hx : XRd w q B A c m g) (hK : 1 ≤ x.K ∧ x.K ≤ 4) (hM : x.M = 60)
    (hpq : p ≠ q) (hpB : p ≠ B) (hv : ∀ g, v.ownBlock = some g → g ≠ q) :
    Calls Try.prog 26 #[.pointer (some ⟨p, 0, none⟩), .pointer (some ⟨q, 0, none⟩), x.val] w (OnePost p q B v l k f x w) := by
  have HR := Lib.hid hr; clear hr
  have HX := Lib.hid hx; clear hx
  obtain ⟨K, M, N, S, T, bb⟩ := x
  unfold PD.val
  simp only at hK hM ⊢
  subst hM
  have HV := Lib.hid hv; clear hv
  by_cases h1 : K = 1
  · subst h1
    clear hK
    go_enter Try.func26, Try.ntmps26
    go_wp2_with (first
      | (go_at_call 20; refine (rnum p v l k f _ (HR.out.alloc _)).mono ?_; intro e w1 hg; obtain ⟨y, rfl, z, rfl⟩ := got_form (Q := IsI .u64) hg ⟨_, rfl⟩ ⟨_, rfl⟩; have HG := Lib.hid (got_step (x := ⟨1, 60, N, S, T, bb⟩) hg rfl); have HX1 := Lib.hid ((HX.out.turn ((Turn.refl (fun _ => False) w).alloc _) (fun f => f) (fun f => f)).turn HG.out.2 (fun e => hpq e.symm) (fun e => hpB e.symm)); clear hg)
      | (go_at_call 42; refine (xnum q B A c m g w1 HX1.out).mono ?_; intro e w2 hg; obtain ⟨y, rfl, ⟨z2, rfl⟩, t, g2, hxm⟩ := xpost_form (Q := IsI .u64) hg ⟨_, rfl⟩ ⟨_, rfl⟩; have HXM := Lib.hid hxm; clear hg hxm))
    go_ret
    exact one_end ((Turn.refl _ w).alloc _) HG.out HXM.out hpq HV.out
  by_cases h2 : K = 2
  · subst h2
    clear hK h1
    go_enter Try.func26, Try.ntmps26
    go_wp2_with (first
      | (go_at_call 21; refine (rint p v l k f _ (HR.out.alloc _)).mono ?_; intro e w1 hg; obtain ⟨y, rfl, z, rfl⟩ := got_form (Q := IsI .i64) hg ⟨_, rfl⟩ ⟨_, rfl⟩; have HG := Lib.hid (got_step (x := ⟨2, 60, N, S, T, bb⟩) hg rfl); have HX1 := Lib.hid ((HX.out.turn ((Turn.refl (fun _ => False) w).alloc _) (fun f => f) (fun f => f)).turn HG.out.2 (fun e => hpq e.symm) (fun e => hpB e.symm)); clear hg)
      | (go_at_call 43; refine (xint q B A c m g w1 HX1.out).mono ?_; intro e w2 hg; obtain ⟨y, rfl, ⟨z2, rfl⟩, t, g2, hxm⟩ := xpost_form (Q := IsI .i64) hg ⟨_, rfl⟩ ⟨_, rfl⟩; have HXM := Lib.hid hxm; clear hg hxm))
    go_ret
    exact one_end ((Turn.refl _ w).alloc _) HG.out HXM.out hpq HV.out
  by_cases h4 : K = 4
  · subst h4
    clear hK h1 h2
    go_enter Try.func26, Try.ntmps26
    go_wp2_with (first
      | (go_at_call 23; refine (rbool p v l k f _ (HR.out.alloc _)).mono ?_; intro e w1 hg; obtain ⟨y, rfl, z, rfl⟩ := got_form (Q := IsB) hg ⟨_, rfl⟩ ⟨_, rfl⟩; have HG := Lib.hid (got_step (x := ⟨4, 60, N, S, T, bb⟩) hg rfl); have HX1 := Lib.hid ((HX.out.turn ((Turn.refl (fun _ => False) w).alloc _) (fun f => f) (fun f => f)).turn HG.out.2 (fun e => hpq e.symm) (fun e => hpB e.symm)); clear hg)
      | (go_at_call 45; refine (xbool q B A c m g w1 HX1.out).mono ?_; intro e w2 hg; obtain ⟨y, rfl, ⟨z2, rfl⟩, t, g2, hxm⟩ := xpost_form (Q := IsB) hg ⟨_, rfl⟩ ⟨_, rfl⟩; have HXM := Lib.hid hxm; clear hg hxm))
    go_ret
    exact one_end ((Turn.refl _ w).alloc _) HG.out HXM.out hpq HV.out
  have h3 : K = 3 := by omega
  subst h3
  clear hK h1 h2 h4
  go_enter Try.func26, Try.ntmps26
  go_wp2_with fail
  have HL := Lib.hid (text_late HR.out HX.out hpq hpB ⟨3, 60, N, S, T, bb⟩ rfl)
  have HM := Lib.hid (xtext_late q B)
  go_region_with (first
    | (go_at_call 22; refine (HL.out _ (by exact ((Turn.refl _ w).alloc _).drew) (by go_simp)).mono ?_; rintro e w1 ⟨z, rfl, hg⟩; have hcell := hg.2.2; have HG := Lib.hid hg; clear hg)
    | (go_at_call 44; refine (HM.out A c m g _ HG.out.2.1).mono ?_; rintro e w2 ⟨z2, rfl, t, g2, hxm⟩; have HXM := Lib.hid hxm; clear hxm))
  all_goals
    go_wp2
    go_ret
    exact one_end HG.out.1.2 HG.out.1.1 HXM.out hpq HV.out

theorem all_drop {l : List PD} {k : Nat} {x : PD} (h : l[k]? = some x) : ∃ rest, (all l l.length).drop (all l k).length = formL x ++ rest := by
  have hk := (List.getElem?_eq_some_iff.1 h).1
  have e : all l l.length = all l (k + 1) ++ (l.drop (k + 1)).flatMap formL := by
    unfold all
    rw [← List.flatMap_append, List.take_append_drop, List.take_of_length_le (Nat.le_refl _)]
  refine ⟨(l.drop (k + 1)).flatMap formL, ?_⟩
  rw [e, all_succ h, List.append_assoc]
  exact List.drop_left

/-- Behind a thing read as it was put. -/
def Back (wr W : World) (p : Nat) (v : Value) (L : List UInt8) (k j : Nat) (y z : Value) (x : PD) (e : Ending) (w1 : World) : Prop :=
  e = .returned z ∧ (Moved W p v L w1 (k + (formL x).length) 0 ∧ Turn (fun _ => False) wr W) ∧ w1.cell? ⟨wr.heap.size, j, none⟩ = some y

theorem back_of {wr W : World} {p : Nat} {v : Value} {L : List UInt8} {k j : Nat} {y none z : Value} {x : PD} {e : Ending} {w1 : World} {c f1 : Nat} (hr : Rdr wr p v L k 0) (ht : Turn (fun _ => False) wr W) (hc : W.cell? ⟨wr.heap.size, j, Option.none⟩ = some y)
    (hg : Got p v L k 0 W none z (k + c) f1 e w1) (h1 : f1 = 0) (h2 : c = (formL x).length) : Back wr W p v L k j y z x e w1 := by
  obtain ⟨he, hm⟩ := got_ok hg ⟨rfl, h1⟩
  subst h2
  have hp : p < wr.heap.size := hr.1.lt
  have hlt := World.block_lt_of_cell? W _ hc
  exact ⟨he, ⟨hm, ht⟩, (hm.2.cell (p := ⟨wr.heap.size, j, Option.none⟩) hlt (fun e => by have e : wr.heap.size = p := e; omega)).trans hc⟩

theorem late_num {wr : World} {p : Nat} {v : Value} {L rest : List UInt8} {k : Nat} (x : PD) (hr : Rdr wr p v L k 0) (hd : L.drop k = formL x ++ rest) (hf : PD.Fit x) (hK : x.K = 1) :
    ∀ W y, Turn (fun _ => False) wr W → W.cell? ⟨wr.heap.size, 2, none⟩ = some y → Calls Try.prog 20 #[.pointer (some ⟨p, 0, none⟩)] W (Back wr W p v L k 2 y (.int .u64 x.N) x) := by
  intro W y ht hc
  have e : rdNum (L.drop k) = (x.N, 0, (formL x).length) := by rw [hd, formL_num (.inl hK), rdNum_enc _ _ hf.1]
  refine (rnum p v L k 0 W (hr.turn ht (fun f => f) (fun _ _ f => f))).mono ?_
  rw [e]
  intro e w1 hg
  exact back_of hr ht hc hg rfl rfl

theorem late_int {wr : World} {p : Nat} {v : Value} {L rest : List UInt8} {k : Nat} (x : PD) (hr : Rdr wr p v L k 0) (hd : L.drop k = formL x ++ rest) (hf : PD.Fit x) (hK : x.K = 2) :
    ∀ W y, Turn (fun _ => False) wr W → W.cell? ⟨wr.heap.size, 3, none⟩ = some y → Calls Try.prog 21 #[.pointer (some ⟨p, 0, none⟩)] W (Back wr W p v L k 3 y (.int .i64 x.S) x) := by
  intro W y ht hc
  have e : rdNum (L.drop k) = (zig x.S, 0, (formL x).length) := by rw [hd, formL_int hK, rdNum_enc _ _ (zig_lt _ hf.2.1 hf.2.2.1)]
  have h := rint p v L k 0 W (hr.turn ht (fun f => f) (fun _ _ f => f))
  unfold RInt at h
  rw [e, zag_zig] at h
  refine h.mono ?_
  intro e w1 hg
  exact back_of hr ht hc hg rfl rfl

theorem late_text {wr : World} {p : Nat} {v : Value} {L rest : List UInt8} {k : Nat} (x : PD) (hr : Rdr wr p v L k 0) (hd : L.drop k = formL x ++ rest) (hT : x.T.size ≤ 60) (hK : x.K = 3) :
    ∀ W y, Turn (fun _ => False) wr W → W.cell? ⟨wr.heap.size, 4, none⟩ = some y → Calls Try.prog 22 #[.pointer (some ⟨p, 0, none⟩), .int .i64 60] W (Back wr W p v L k 4 y (.string x.T) x) := by
  intro W y ht hc
  have e : rdText 60 (L.drop k) = (x.T.data.toList, 0, (formL x).length) := by rw [hd, formL_text hK, rdText_enc _ _ hT]
  have h := rtext p v L k 0 W 60 (by omega) (hr.turn ht (fun f => f) (fun _ _ f => f))
  rw [e] at h
  have e2 : (ByteArray.mk x.T.data.toList.toArray) = x.T := by rw [Array.toArray_toList]
  simp only [e2] at h
  refine h.mono ?_
  intro e w1 hg
  exact back_of hr ht hc hg rfl rfl

theorem late_bool {wr : World} {p : Nat} {v : Value} {L rest : List UInt8} {k : Nat} (x : PD) (hr : Rdr wr p v L k 0) (hd : L.drop k = formL x ++ rest) (hK : x.K = 4) :
    ∀ W y, Turn (fun _ => False) wr W → W.cell? ⟨wr.heap.size, 5, none⟩ = some y → Calls Try.prog 23 #[.pointer (some ⟨p, 0, none⟩)] W (Back wr W p v L k 5 y (.bool x.B) x) := by
  intro W y ht hc
  have e : rdFlag (L.drop k) = (x.B, 0, (formL x).length) := by
    rw [hd, formL_bool hK, flag_enc]
    cases x.B <;> rfl
  have h := rbool p v L k 0 W (hr.turn ht (fun f => f) (fun _ _ f => f))
  rw [e] at h
  refine h.mono ?_
  intro e w1 hg
  exact back_of hr ht hc hg rfl rfl

/-- Of fewer bytes: whole things are read, and then none is. -/
theorem cut_step {l : List PD} {k n : Nat} {x : PD} {kk f : Nat} (hx : l[k]? = some x) (hK : 1 ≤ x.K ∧ x.K ≤ 4) (hf : PD.Fit x) (hT : x.T.size ≤ 60)
    (hinv : f = 3 ∨ (f = 0 ∧ kk = (all l k).length ∧ kk ≤ n)) :
    (rstep x ((all l l.length).take n) kk f).2 = 3 ∨ ((rstep x ((all l l.length).take n) kk f).2 = 0 ∧ (rstep x ((all l l.length).take n) kk f).1 = (all l (k + 1)).length ∧ (all l (k + 1)).length ≤ n) := by
  rcases hinv with h3 | ⟨h0, hkk, hle⟩
  · left
    subst h3
    unfold rstep
    rw [if_pos (by omega)]
  · subst h0 hkk
    obtain ⟨rest, hrest⟩ := all_drop hx
    have hd : ((all l l.length).take n).drop (all l k).length = (formL x ++ rest).take (n - (all l k).length) := by
      rw [List.drop_take, hrest]
    unfold rstep
    rw [if_neg (by omega), hd]
    by_cases hm : n - (all l k).length < (formL x).length
    · have e : (formL x ++ rest).take (n - (all l k).length) = (formL x).take (n - (all l k).length) := List.take_append_of_le_length (by omega)
      have hc := rk_cut x (n - (all l k).length) hK hT hm
      rw [e, if_neg (by rw [hc]; omega)]
      exact .inl hc
    · have e : (formL x ++ rest).take (n - (all l k).length) = formL x ++ rest.take (n - (all l k).length - (formL x).length) := by
        rw [List.take_append, List.take_of_length_le (by omega)]
      have hc := rk_full x (rest.take (n - (all l k).length - (formL x).length)) hK hf hT
      rw [e, hc, if_pos rfl]
      refine .inr ⟨rfl, ?_, ?_⟩
      · rw [all_succ hx, List.length_append]
      · rw [all_succ hx, List.length_append]
        omega

theorem Rd.front {w : World} {A : Option Addr} {n c : Nat} {l : List UInt8} (h : Rd w (.slice A n c) l) (m : Nat) (hm : m ≤ l.length) : Rd w (.slice A m c) (l.take m) := by
  obtain ⟨A', c', e, h1, h2⟩ := h
  injection e with e1 e2 e3
  subst e1 e3
  have hl : (l.take m).length = m := by rw [List.length_take]; omega
  refine ⟨A, c, by rw [hl], fun e => ?_, fun ad had j b hj => ?_⟩
  · obtain ⟨h3, h4⟩ := h1 e
    subst h3
    exact ⟨by simp, h4⟩
  · refine h2 ad had j b ?_
    rw [List.getElem?_take] at hj
    split at hj
    · exact hj
    · cases hj

/-- The document's reader over bytes that lie in a row. -/
theorem XRd.new {w : World} {A : Option Addr} {c n : Nat} {l : List UInt8} (h : By w (.slice A n c) l) :
    XRd (w.alloc (.cells #[.slice A n c, .int .i64 0] 52)) w.heap.size (((Value.slice A n c).ownBlock).getD (w.heap.size + 1)) A c l 0 := by
  obtain ⟨hn, h1, h2, _⟩ := h.cap
  subst hn
  refine ⟨Box.new _ _ _, (h.alloc _).rd, ⟨fun g hg => by rw [hg]; rfl, ?_⟩, h1, h2⟩
  cases hb : (Value.slice A l.length c).ownBlock with
  | none => simp
  | some g =>
    have := h.lt hb
    simp only [Option.getD_some]
    omega

theorem rstep_same (x : PD) (l : List UInt8) (k f : Nat) : rstep { x with M := 60 } l k f = rstep x l k f := rfl

theorem Rdr.drewN {w : World} {p : Nat} {v : Value} {l : List UInt8} {k f : Nat} (h : Rdr w p v l k f) (n : Nat) : Rdr (w.drewN n) p v l k f := h
theorem By.drewN {w : World} {v : Value} {l : List UInt8} (h : By w v l) (n : Nat) : By (w.drewN n) v l := h

end Go.Proofs.Ytjanmiafnldkgaa
