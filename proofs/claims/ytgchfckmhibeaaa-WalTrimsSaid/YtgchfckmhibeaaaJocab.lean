/-
  Texts laid one behind the other: Of Og Oh Oi Oj Ok Ol Cm.
-/
import Derived.Test.YtgchfckmhibeaaaJocaa
import Derived.RegionTactic
import Derived.ChangeAlike
import Derived.Deep.QuietTactic
import Derived.BigQuiet
import Derived.WalkMore
import Derived.WalkKit
import Derived.WalkSmall
import Derived.Laws.BitsAllLaws

/-
  The reader.
-/
namespace Go.Proofs.Ytgchfckmhibeaaa
open Go.RowKit

/-- A reader in block p: of bytes l, at k, with fault f. -/
def Rdr (w : World) (p : Nat) (v : Value) (l : List UInt8) (k f : Nat) : Prop :=
  Box w p 117 #[v, .int .i64 k, .int .i64 f] ∧ By w v l ∧ k ≤ l.length ∧ l.length ≤ 1000000

theorem Rdr.turn {w w' : World} {p : Nat} {v : Value} {l : List UInt8} {k f : Nat} {S : Nat → Prop} (h : Rdr w p v l k f) (ht : Turn S w w') (h1 : ¬ S p) (h2 : ∀ g, v.ownBlock = some g → ¬ S g) : Rdr w' p v l k f :=
  ⟨h.1.turn ht h1, h.2.1.turn ht h2, h.2.2⟩

/-- Behind a call on a reader. -/
def Moved (w : World) (p : Nat) (v : Value) (l : List UInt8) (w' : World) (k f : Nat) : Prop := Rdr w' p v l k f ∧ Turn (fun g => g = p) w w'

set_option maxRecDepth 100000 in
set_option maxHeartbeats 400000 in
theorem fault_any (p : Nat) (v : Value) (l : List UInt8) (k f : Nat) (w : World) (h : Rdr w p v l k f) :
    Calls Try.prog 46 #[.pointer (some ⟨p, 0, none⟩)] w fun e w' => e = .returned (.int .i64 f) ∧ w = w' := by
  have hc : w.cell? ⟨p, 2, none⟩ = some (.int .i64 f) := h.1.cell 2
  clear h
  go_enter Try.func46, Try.ntmps46
  go_wp2
  go_ret
  exact ⟨rfl, rfl⟩

set_option maxRecDepth 100000 in
set_option maxHeartbeats 400000 in
theorem left_any (p : Nat) (v : Value) (l : List UInt8) (k f : Nat) (w : World) (h : Rdr w p v l k f) :
    Calls Try.prog 48 #[.pointer (some ⟨p, 0, none⟩)] w fun e w' => e = .returned (.int .i64 ((l.length - k : Nat) : Int)) ∧ ∃ n, w' = w.drewN n := by
  obtain ⟨A, c, hv, _⟩ := h.2.1.rd
  subst hv
  have hc : w.cell? ⟨p, 0, none⟩ = some (.slice A l.length c) := h.1.cell 0
  have hd : w.cell? ⟨p, 1, none⟩ = some (.int .i64 k) := h.1.cell 1
  have h1 := h.2.2.1
  have h2 := h.2.2.2
  clear h
  go_enter Try.func48, Try.ntmps48
  go_wp2
  go_quiet (fail)
  go_wp2
  go_ret
  refine ⟨ret_int ?_, _, rfl⟩
  omega

set_option maxRecDepth 100000 in
set_option maxHeartbeats 400000 in
theorem take_no (p : Nat) (v : Value) (l : List UInt8) (k f : Nat) (n : Nat) (w : World) (h : Rdr w p v l k f) (hn : l.length - k < n) :
    Calls Try.prog 87 #[.pointer (some ⟨p, 0, none⟩), .int .i64 n] w fun e w' => e = .returned (.tuple #[.slice none 0 0, .int .i64 3]) ∧ ∃ n, w' = w.drewN n := by
  have HR := Lib.hid h; clear h
  have H1 : l.length - k < n := hn
  go_enter Try.func87, Try.ntmps87
  go_wp2_with (go_at_call 48; refine (left_any p v l k f w HR.out).mono ?_; rintro e w1 ⟨rfl, m, rfl⟩)
  go_ret2
  exact ⟨rfl, _, rfl⟩

theorem take_moved {p : Nat} {A : Option Addr} {c : Nat} {l : List UInt8} {k f n : Nat} {w : World} (h : Rdr w p (.slice A l.length c) l k f) (hn : n ≤ l.length - k) (m : Nat) :
    Moved w p (.slice A l.length c) l ((w.drewN m).setCell ⟨p, 1, none⟩ (.int .i64 ((k : Int) + n))) (k + n) f := by
  obtain ⟨hb, hy, h1, h2⟩ := h
  have hne : (Value.slice A l.length c).ownBlock ≠ some p := hy.ne_box hb (by decide)
  have t : Turn (fun g => g = p) w ((w.drewN m).setCell ⟨p, 1, none⟩ (.int .i64 ((k : Int) + n))) := ((Turn.refl (fun g => g = p) w).drewN m).setCell (p := ⟨p, 1, none⟩) (fun _ => rfl) _
  refine ⟨⟨?_, hy.turn t (fun g hg e => hne (by subst e; exact hg)), by omega, h2⟩, t⟩
  have hb2 : Box (w.drewN m) p 117 #[.slice A l.length c, .int .i64 k, .int .i64 f] := hb
  simpa using hb2.set 1 (.int .i64 ((k : Int) + n))

theorem take_rd0 {p : Nat} {A : Option Addr} {c : Nat} {l : List UInt8} {k f n : Nat} {w : World} (h : Rdr w p (.slice A l.length c) l k f) (hck : c = k) (hn : n ≤ l.length - k) (w' : World) :
    Rd w' (.slice A n 0) ((l.drop k).take n) := by
  have h3 := h.2.1.cap.2.1
  have h4 := h.2.2.1
  have e : n = 0 := by omega
  subst e
  rw [List.take_zero]
  exact ⟨A, 0, rfl, ⟨Nat.le_refl _, Nat.zero_le _⟩, fun _ => ⟨rfl, rfl⟩, fun _ _ j b hj => by simp at hj⟩

theorem take_rd {p : Nat} {A : Option Addr} {c : Nat} {l : List UInt8} {k f n : Nat} {w : World} (h : Rdr w p (.slice A l.length c) l k f) (hck : ¬ c = k) (hn : n ≤ l.length - k) (m : Nat) :
    Rd ((w.drewN m).setCell ⟨p, 1, none⟩ (.int .i64 ((k : Int) + n))) (.slice (A.map fun x => x.add k) n (c - k)) ((l.drop k).take n) := by
  have hm := take_moved h hn m
  obtain ⟨A', c', e, hfit, hnone, hcell⟩ := hm.1.2.1.rd
  injection e with e1 e2 e3
  subst e1 e3
  have h4 := h.2.2.1
  have hl : ((l.drop k).take n).length = n := by rw [List.length_take, List.length_drop]; omega
  refine ⟨A.map fun x => x.add k, c - k, by rw [hl], ⟨by omega, by omega⟩, ?_, ?_⟩
  · intro hA
    have h5 : A = none := by simpa using hA
    obtain ⟨h6, h7⟩ := hnone h5
    subst h6
    simp at h4
    omega
  · intro ad had j b hj
    obtain ⟨ad0, h5, rfl⟩ := Option.map_eq_some_iff.1 had
    rw [add_of_add]
    refine hcell ad0 h5 (k + j) b ?_
    rw [List.getElem?_take] at hj
    split at hj
    · rw [List.getElem?_drop] at hj
      exact hj
    · cases hj

set_option maxRecDepth 100000 in
set_option maxHeartbeats 400000 in
theorem take_yes (p : Nat) (A : Option Addr) (c : Nat) (l : List UInt8) (k f : Nat) (n : Nat) (w : World) (h : Rdr w p (.slice A l.length c) l k f) (hn : n ≤ l.length - k) :
    Calls Try.prog 87 #[.pointer (some ⟨p, 0, none⟩), .int .i64 n] w fun e w' => ∃ u, e = .returned (.tuple #[u, .int .i64 0]) ∧ Rd w' u ((l.drop k).take n) ∧ Moved w p (.slice A l.length c) l w' (k + n) f := by
  have hc : w.cell? ⟨p, 0, none⟩ = some (.slice A l.length c) := h.1.cell 0
  have hd : w.cell? ⟨p, 1, none⟩ = some (.int .i64 k) := h.1.cell 1
  have hf : w.frozen? ⟨p, 1, none⟩ = false := h.1.free 1
  have h1 := h.2.2.1
  have h2 := h.2.2.2
  have hcap := h.2.1.cap
  have HR := Lib.hid h; clear h
  have f1 : IntKind.i64.wrap ((k : Int) + n) = (k : Int) + n := IntWalk.i64_in _ (by omega)
  have f2 : ((k : Int) + n).toNat = k + n := by omega
  have f3 : (k : Int) ≤ (k : Int) + n := by omega
  have f4 : (k : Int) + n ≤ (c : Int) := by omega
  have f5 : 0 ≤ (k : Int) + n := by omega
  have HC := Lib.hid hcap; clear hcap
  by_cases hck : c = k
  · subst hck
    go_enter Try.func87, Try.ntmps87
    go_wp2_with (go_at_call 48; refine (left_any p _ l c f w HR.out).mono ?_; rintro e w1 ⟨rfl, m, rfl⟩)
    go_quiet (fail)
    go_wp2
    go_ret2
    exact ⟨.slice A n 0, rfl, take_rd0 HR.out rfl hn _, take_moved HR.out hn _⟩
  · go_enter Try.func87, Try.ntmps87
    go_wp2_with (go_at_call 48; refine (left_any p _ l k f w HR.out).mono ?_; rintro e w1 ⟨rfl, m, rfl⟩)
    go_quiet (fail)
    go_wp2
    go_ret2
    exact ⟨.slice (A.map fun x => x.add k) n (c - k), rfl, take_rd HR.out hck hn _, take_moved HR.out hn _⟩

end Go.Proofs.Ytgchfckmhibeaaa

/-
  A number read.
-/
namespace Go.Proofs.Ytgchfckmhibeaaa
open Go.RowKit

/-- What is read as a number, behind i bytes that came to acc: its value, the fault, how many bytes were taken. -/
def rdF : Nat → Nat → Nat → List UInt8 → Nat × Nat × Nat
  | 0, i, _, _ => (0, 4, i)
  | _ + 1, i, _, [] => (0, 3, i)
  | f + 1, i, acc, b :: l =>
    if 128 ≤ b.toNat then rdF f (i + 1) (acc + (b.toNat - 128) * 128 ^ i) l
    else if (0 < i ∧ b.toNat = 0) ∨ (i = 9 ∧ 1 < b.toNat) then (0, 4, i + 1) else (acc + b.toNat * 128 ^ i, 0, i + 1)
def rdNum (l : List UInt8) : Nat × Nat × Nat := rdF 10 0 0 l

/-- The method value r.take. -/
def tk (p : Nat) : Value := .func (.func 87) #[.pointer (some ⟨p, 0, none⟩)] #[]

def NumPost (p : Nat) (v : Value) (l : List UInt8) (k : Nat) (w : World) (e : Ending) (w' : World) : Prop :=
  e = .returned (.tuple #[.int .u64 (rdNum (l.drop k)).1, .int .i64 (rdNum (l.drop k)).2.1]) ∧ Moved w p v l w' (k + (rdNum (l.drop k)).2.2) 0

def NRel (p : Nat) (v : Value) (l : List UInt8) (k : Nat) (w : World) (x c : Value) (wr : World) (i acc : Nat) : Prop :=
  c = .int .i64 i ∧ i ≤ 10 ∧ (i < 10 → x = .int .u64 acc ∧ acc < 128 ^ i) ∧ rdF (10 - i) i acc (l.drop (k + i)) = rdNum (l.drop k) ∧ Moved w p v l wr (k + i) 0

theorem rdF_step (l : List UInt8) (k i acc : Nat) (hi : i < 10) (hl : k + i < l.length) (x : Nat) (hx : x = (l[k+i]?.getD 0).toNat) :
    rdF (10 - i) i acc (l.drop (k + i)) = if 128 ≤ x then rdF (10 - (i + 1)) (i + 1) (acc + (x - 128) * 128 ^ i) (l.drop (k + (i + 1)))
      else if (0 < i ∧ x = 0) ∨ (i = 9 ∧ 1 < x) then (0, 4, i + 1) else (acc + x * 128 ^ i, 0, i + 1) := by
  have e : 10 - i = (10 - (i + 1)) + 1 := by omega
  rw [e, List.drop_eq_getElem_cons hl]
  have h2 : (l[k+i]?.getD 0) = l[k+i] := by rw [List.getElem?_eq_getElem hl]; rfl
  rw [h2] at hx
  subst hx
  rfl

theorem rdF_none (l : List UInt8) (k i acc : Nat) (hi : i < 10) (hl : ¬ k + i < l.length) : rdF (10 - i) i acc (l.drop (k + i)) = (0, 3, i) := by
  have e : 10 - i = (10 - (i + 1)) + 1 := by omega
  rw [e, List.drop_eq_nil_of_le (by omega)]
  rfl

theorem take_one {p : Nat} {v : Value} {l : List UInt8} {k : Nat} {w : World} (h : Rdr w p v l k 0) (hl : k < l.length) (x : Nat) (hx : x = (l[k]?.getD 0).toNat) :
    Calls Try.prog 87 #[.pointer (some ⟨p, 0, none⟩), .int .i64 1] w fun e w' => ∃ ad c, e = .returned (.tuple #[.slice (some ad) 1 c, .int .i64 0]) ∧
      w'.cell? ad = some (.int .u8 x) ∧ Moved w p v l w' (k + 1) 0 := by
  obtain ⟨A, c, hv, _⟩ := h.2.1.rd
  subst hv
  have hc := take_yes p A c l k 0 1 w h (by omega)
  refine Calls.mono hc ?_
  rintro e w' ⟨u, rfl, hrd, hm⟩
  have e1 : (l.drop k).take 1 = [l[k]] := by
    rw [List.drop_eq_getElem_cons hl]
    rfl
  rw [e1] at hrd
  obtain ⟨A', c', rfl, _, hnone, hcell⟩ := hrd
  cases A' with
  | none => exact absurd (hnone rfl).1 (by simp)
  | some ad =>
    refine ⟨ad, c', rfl, ?_, hm⟩
    have h3 := hcell ad rfl 0 (l[k]) rfl
    have e2 : ad.add 0 = ad := by simp [Addr.add]
    rw [e2] at h3
    rw [h3, hx, List.getElem?_eq_getElem hl]
    rfl

theorem num_end {p : Nat} {v : Value} {l : List UInt8} {k : Nat} {w w' : World} {val : Int} {f m : Nat} {r : Nat × Nat × Nat} (hr : r = rdNum (l.drop k)) (h1 : val = r.1) (h2 : f = r.2.1) (h3 : m = k + r.2.2)
    (hm : Moved w p v l w' m 0) : NumPost p v l k w (.returned (.tuple #[.int .u64 val, .int .i64 f])) w' := by
  subst h1 h2 h3 hr
  exact ⟨rfl, hm⟩

theorem Moved.trans {a b c : World} {p : Nat} {v : Value} {l : List UInt8} {k f k' f' : Nat} (h : Moved a p v l b k f) (g : Moved b p v l c k' f') : Moved a p v l c k' f' :=
  ⟨g.1, h.2.trans g.2 (fun _ _ t => t)⟩
theorem Moved.drewN {a b : World} {p : Nat} {v : Value} {l : List UInt8} {k f : Nat} (h : Moved a p v l b k f) (n : Nat) : Moved a p v l (b.drewN n) k f := ⟨h.1, h.2.drewN n⟩

theorem nrel_step {p : Nat} {v : Value} {l : List UInt8} {k : Nat} {w wr w1 : World} {i acc x : Nat} (h10 : i < 10) (hl : k + i < l.length) (hx : x = (l[k+i]?.getD 0).toNat) (h128 : 128 ≤ x) (hx2 : x < 256)
    (hacc : acc < 128 ^ i) (hrd : rdF (10 - i) i acc (l.drop (k + i)) = rdNum (l.drop k)) (hm : Moved w p v l wr (k + i) 0) (hm1 : Moved wr p v l w1 (k + i + 1) 0) :
    ∃ j a, NRel p v l k w (.int .u64 (bits BinOp.or IntKind.u64 (acc : Int) (IntKind.u64.wrap (((x : Int) - 128) * 2 ^ (7 * i))))) (.int .i64 ((i : Int) + 1)) w1 j a := by
  refine ⟨i + 1, acc + (x - 128) * 128 ^ i, by congr 1, by omega, fun h => ?_, ?_, hm.trans hm1⟩
  · have := or_mid acc x i h128 hx2 (by omega) hacc
    rw [this.1]
    exact ⟨rfl, this.2⟩
  · rw [← hrd, rdF_step l k i acc h10 hl x hx, if_pos h128]

set_option maxRecDepth 100000 in
set_option maxHeartbeats 400000 in
theorem number_any (p : Nat) (v : Value) (l : List UInt8) (k : Nat) (w : World) (h : Rdr w p v l k 0) :
    Calls Try.prog 67 #[tk p] w (NumPost p v l k w) := by
  unfold tk
  go_enter Try.func67, Try.ntmps67
  go_wp2_with fail
  go_step3
  go_wp2_with fail
  go_step3
  go_wp2_with fail
  go_loopw [4, 8] (fun x c wr => ∃ (i acc : Nat), NRel p v l k w x c wr i acc) (fun _ c _ => 10 - (intOf c).toNat)
  case atStart => exact ⟨0, 0, rfl, by omega, fun _ => ⟨rfl, by simp⟩, rfl, h, Turn.refl _ _⟩
  case round =>
    obtain ⟨i, acc, rfl, hi, hx, hrd, hm⟩ := hrel
    by_cases h10 : i < 10
    · obtain ⟨rfl, hacc⟩ := hx h10
      have HA := Lib.hid hacc; clear hacc
      have HD := Lib.hid hrd; clear hrd
      have HM := Lib.hid hm; clear hm
      clear hx
      by_cases hlen : k + i < l.length
      · have HL := Lib.hid hlen; clear hlen
        obtain ⟨x, hx⟩ : ∃ x : Nat, x = (l[k+i]?.getD 0).toNat := ⟨_, rfl⟩
        have hx256 : x < 256 := by rw [hx]; exact UInt8.toNat_lt _
        have HX := Lib.hid hx; clear hx
        have HS := Lib.hid (rdF_step l k i acc h10 HL.out x HX.out)
        have HT := Lib.hid (take_one HM.out.1 HL.out x HX.out)
        by_cases h128 : 128 ≤ x
        · go_wp2_with (go_at_call 87; refine HT.out.mono ?_; rintro e w1 ⟨ad, c, rfl, hcell, hm1⟩; have HM1 := Lib.hid hm1; clear hm1)
          go_roundw
          case rel => exact nrel_step h10 HL.out HX.out h128 hx256 HA.out HD.out HM.out HM1.out
          case measure => simp [intOf]; omega
        · have HE := Lib.hid (HD.out.symm.trans (HS.out.trans (if_neg h128)))
          by_cases hi0 : i = 0
          · subst hi0
            go_wp2_with (go_at_call 87; refine HT.out.mono ?_; rintro e w1 ⟨ad, c, rfl, hcell, hm1⟩; have HM1 := Lib.hid hm1; clear hm1)
            rw [Exit.noGoto_ret]
            go_ret2
            refine num_end (r := (acc + x * 128 ^ 0, 0, 0 + 1)) ?_ ?_ rfl rfl (HM.out.trans HM1.out)
            · rw [HE.out, if_neg (by omega)]
            · have h0 : acc < 128 ^ 0 := HA.out
              have e0 : acc = 0 := by simpa using h0
              subst e0
              rw [bits_or_u64_nat 0 x (by omega) (by omega)]
              simp
          · have hpos : 0 < i := by omega
            clear hi0
            by_cases hx0 : x < 1
            · go_wp2_with (go_at_call 87; refine HT.out.mono ?_; rintro e w1 ⟨ad, c, rfl, hcell, hm1⟩; have HM1 := Lib.hid hm1; clear hm1)
              rw [Exit.noGoto_ret]
              go_ret2
              exact num_end (r := (0, 4, i + 1)) (by rw [HE.out, if_pos (.inl ⟨hpos, by omega⟩)]) rfl rfl rfl (HM.out.trans HM1.out)
            · have hx1 : 1 ≤ x := by omega
              clear hx0
              by_cases h9 : i < 9
              · go_wp2_with (go_at_call 87; refine HT.out.mono ?_; rintro e w1 ⟨ad, c, rfl, hcell, hm1⟩; have HM1 := Lib.hid hm1; clear hm1)
                rw [Exit.noGoto_ret]
                go_ret2
                refine num_end (r := (acc + x * 128 ^ i, 0, i + 1)) ?_ ?_ rfl rfl (HM.out.trans HM1.out)
                · rw [HE.out, if_neg (by omega)]
                · have hp := pow_le i (by omega)
                  have hm : x * 128 ^ i ≤ 1 * 9223372036854775808 ∨ x * 128 ^ i < 128 * 128 ^ i := .inr (Nat.mul_lt_mul_of_pos_right (by omega) (Nat.pow_pos (by omega)))
                  have hp2 := pow_le (i + 1) (by omega)
                  rw [Nat.pow_succ] at hp2
                  exact or_val acc x i (by omega) HA.out (by omega)
              · have h9b : 9 ≤ i := by omega
                clear h9
                by_cases hx2 : x < 2
                · go_wp2_with (go_at_call 87; refine HT.out.mono ?_; rintro e w1 ⟨ad, c, rfl, hcell, hm1⟩; have HM1 := Lib.hid hm1; clear hm1)
                  rw [Exit.noGoto_ret]
                  go_ret2
                  refine num_end (r := (acc + x * 128 ^ i, 0, i + 1)) ?_ ?_ rfl rfl (HM.out.trans HM1.out)
                  · rw [HE.out, if_neg (by omega)]
                  · have hp := pow_le i (by omega)
                    have e1 : x = 1 := by omega
                    have e9 : i = 9 := by omega
                    have h3 := or_val acc x i (by omega) HA.out (by rw [e1]; omega)
                    have e4 : IntKind.u64.wrap ((x : Int) * 2 ^ (7 * i)) = (x : Int) * 9223372036854775808 := by
                      rw [pow_7, e9, e1, IntKind.wrap_u64]
                      decide +kernel
                    rw [e4] at h3
                    exact h3
                · go_wp2_with (go_at_call 87; refine HT.out.mono ?_; rintro e w1 ⟨ad, c, rfl, hcell, hm1⟩; have HM1 := Lib.hid hm1; clear hm1)
                  rw [Exit.noGoto_ret]
                  go_ret2
                  exact num_end (r := (0, 4, i + 1)) (by rw [HE.out, if_pos (.inr ⟨by omega, by omega⟩)]) rfl rfl rfl (HM.out.trans HM1.out)
      · have HL := Lib.hid hlen; clear hlen
        have HN := Lib.hid (take_no p v l (k + i) 0 1 wr HM.out.1 (by have := HL.out; omega))
        have HE := Lib.hid (HD.out.symm.trans (rdF_none l k i acc h10 HL.out))
        go_wp2_with (go_at_call 87; refine HN.out.mono ?_; rintro e w1 ⟨rfl, m, rfl⟩)
        rw [Exit.noGoto_ret]
        go_ret2
        exact num_end HE.out.symm rfl rfl rfl (HM.out.drewN m)
    · have e10 : i = 10 := by omega
      subst e10
      have HD := Lib.hid hrd; clear hrd
      have HM := Lib.hid hm; clear hm
      clear hx
      go_wp2
      rw [Exit.noGoto_ret]
      go_ret2
      exact num_end HD.out rfl rfl rfl HM.out

end Go.Proofs.Ytgchfckmhibeaaa

/-
  What a reader's calls read: all of a thing, or a fault.
-/
namespace Go.Proofs.Ytgchfckmhibeaaa
open Go.RowKit

/-- Behind a thing that was tried: with a fault nothing but that has changed. -/
def Tried (p : Nat) (v : Value) (l : List UInt8) (k : Nat) (w : World) (none x : Value) (k1 f : Nat) (e : Ending) (w' : World) : Prop :=
  (f = 0 → e = .returned x ∧ Moved w p v l w' k1 0) ∧ (f ≠ 0 → e = .returned none ∧ Moved w p v l w' k f)

theorem tried_ok {p : Nat} {v : Value} {l : List UInt8} {k : Nat} {w : World} {none x : Value} {k1 : Nat} {w' : World} (h : Moved w p v l w' k1 0) : Tried p v l k w none x k1 0 (.returned x) w' :=
  ⟨fun _ => ⟨rfl, h⟩, fun n => absurd rfl n⟩

theorem tried_bad {p : Nat} {v : Value} {l : List UInt8} {k : Nat} {w : World} {none x : Value} {k1 f : Nat} {w1 : World} (h0 : Rdr w p v l k 0) (h : Moved w p v l w1 k1 0) (hf : f ≠ 0) :
    Tried p v l k w none x k1 f (.returned none) ((w1.setCell ⟨p, 1, Option.none⟩ (.int .i64 k)).setCell ⟨p, 2, Option.none⟩ (.int .i64 f)) := by
  refine ⟨fun n => absurd n hf, fun _ => ⟨rfl, ?_⟩⟩
  obtain ⟨⟨hb, hy, _, h2⟩, ht⟩ := h
  have hne : v.ownBlock ≠ some p := hy.ne_box hb (by decide)
  have t : Turn (fun g => g = p) w1 ((w1.setCell ⟨p, 1, Option.none⟩ (.int .i64 k)).setCell ⟨p, 2, Option.none⟩ (.int .i64 f)) :=
    ((Turn.refl (fun g => g = p) w1).setCell (p := ⟨p, 1, Option.none⟩) (fun _ => rfl) _).setCell (p := ⟨p, 2, Option.none⟩) (fun _ => rfl) _
  refine ⟨⟨?_, hy.turn t (fun g hg e => hne (by subst e; exact hg)), h0.2.2.1, h2⟩, ht.trans t (fun _ _ s => s)⟩
  simpa using (hb.set 1 (.int .i64 (k : Int))).set 2 (.int .i64 (f : Int))

set_option maxRecDepth 100000 in
set_option maxHeartbeats 400000 in
theorem read_u64 (p : Nat) (v : Value) (l : List UInt8) (k : Nat) (w : World)  (h : Rdr w p v l k 0) (x : Int) (k1 f : Nat)
    (ht : Calls Try.prog 67 #[tk p] w fun e w1 => e = .returned (.tuple #[(.int .u64 x), .int .i64 f]) ∧ Moved w p v l w1 k1 0) :
    Calls Try.prog 66 #[.pointer (some ⟨p, 0, none⟩), (.func (.func 67) #[] #[])] w (Tried p v l k w (.int .u64 0) (.int .u64 x) k1 f) := by
  have hc : w.cell? ⟨p, 1, none⟩ = some (.int .i64 k) := h.1.cell 1
  have HR := Lib.hid h; clear h
  have HT := Lib.hid ht; clear ht
  unfold tk at HT
  by_cases hf : f = 0
  · subst hf
    go_enter Try.func66, Try.ntmps66
    go_wp2_with (first
      | (go_at_call 46; refine (fault_any p _ l k 0 w HR.out).mono ?_; rintro e w1 ⟨rfl, rfl⟩)
      | (go_at_call 67; refine HT.out.mono ?_; rintro e w1 ⟨rfl, hm⟩; have HM := Lib.hid hm; clear hm))
    go_ret
    exact tried_ok HM.out
  · have hf2 : (((f : Int) == 0) = false) := by rw [beq_eq_false_iff_ne]; omega
    have hf3 : (((f : Int) != 0) = true) := by rw [bne_iff_ne]; omega
    have HF := Lib.hid hf; clear hf
    go_enter Try.func66, Try.ntmps66
    go_wp2_with (first
      | (go_at_call 46; refine (fault_any p _ l k 0 w HR.out).mono ?_; rintro e w1 ⟨rfl, rfl⟩)
      | (go_at_call 67; refine HT.out.mono ?_; rintro e w1 ⟨rfl, hm⟩; have c1 : w1.cell? ⟨p, 1, none⟩ = some (.int .i64 k1) := hm.1.1.cell 1; have c2 : w1.cell? ⟨p, 2, none⟩ = some (.int .i64 0) := hm.1.1.cell 2; have f1 : w1.frozen? ⟨p, 1, none⟩ = false := hm.1.1.free 1; have f2 : w1.frozen? ⟨p, 2, none⟩ = false := hm.1.1.free 2; have HM := Lib.hid hm; clear hm))
    go_ret
    exact tried_bad HR.out HM.out HF.out

set_option maxRecDepth 100000 in
set_option maxHeartbeats 400000 in
theorem read_text (p : Nat) (v : Value) (l : List UInt8) (k : Nat) (w : World) (b : Addr) (h : Rdr w p v l k 0) (x : ByteArray) (k1 f : Nat)
    (ht : Calls Try.prog 103 #[tk p, .pointer (some b)] w fun e w1 => e = .returned (.tuple #[(.string x), .int .i64 f]) ∧ Moved w p v l w1 k1 0) :
    Calls Try.prog 102 #[.pointer (some ⟨p, 0, none⟩), (.func (.func 103) #[] #[.pointer (some b)])] w (Tried p v l k w (.string ⟨#[]⟩) (.string x) k1 f) := by
  have hc : w.cell? ⟨p, 1, none⟩ = some (.int .i64 k) := h.1.cell 1
  have HR := Lib.hid h; clear h
  have HT := Lib.hid ht; clear ht
  unfold tk at HT
  by_cases hf : f = 0
  · subst hf
    go_enter Try.func102, Try.ntmps102
    go_wp2_with (first
      | (go_at_call 46; refine (fault_any p _ l k 0 w HR.out).mono ?_; rintro e w1 ⟨rfl, rfl⟩)
      | (go_at_call 103; refine HT.out.mono ?_; rintro e w1 ⟨rfl, hm⟩; have HM := Lib.hid hm; clear hm))
    go_ret
    exact tried_ok HM.out
  · have hf2 : (((f : Int) == 0) = false) := by rw [beq_eq_false_iff_ne]; omega
    have hf3 : (((f : Int) != 0) = true) := by rw [bne_iff_ne]; omega
    have HF := Lib.hid hf; clear hf
    go_enter Try.func102, Try.ntmps102
    go_wp2_with (first
      | (go_at_call 46; refine (fault_any p _ l k 0 w HR.out).mono ?_; rintro e w1 ⟨rfl, rfl⟩)
      | (go_at_call 103; refine HT.out.mono ?_; rintro e w1 ⟨rfl, hm⟩; have c1 : w1.cell? ⟨p, 1, none⟩ = some (.int .i64 k1) := hm.1.1.cell 1; have c2 : w1.cell? ⟨p, 2, none⟩ = some (.int .i64 0) := hm.1.1.cell 2; have f1 : w1.frozen? ⟨p, 1, none⟩ = false := hm.1.1.free 1; have f2 : w1.frozen? ⟨p, 2, none⟩ = false := hm.1.1.free 2; have HM := Lib.hid hm; clear hm))
    go_ret
    exact tried_bad HR.out HM.out HF.out

set_option maxRecDepth 100000 in
set_option maxHeartbeats 400000 in
theorem read_count (p : Nat) (v : Value) (l : List UInt8) (k : Nat) (w : World) (b : Addr) (h : Rdr w p v l k 0) (x : Int) (k1 f : Nat)
    (ht : Calls Try.prog 96 #[tk p, .pointer (some b)] w fun e w1 => e = .returned (.tuple #[(.int .i64 x), .int .i64 f]) ∧ Moved w p v l w1 k1 0) :
    Calls Try.prog 95 #[.pointer (some ⟨p, 0, none⟩), (.func (.func 96) #[] #[.pointer (some b)])] w (Tried p v l k w (.int .i64 0) (.int .i64 x) k1 f) := by
  have hc : w.cell? ⟨p, 1, none⟩ = some (.int .i64 k) := h.1.cell 1
  have HR := Lib.hid h; clear h
  have HT := Lib.hid ht; clear ht
  unfold tk at HT
  by_cases hf : f = 0
  · subst hf
    go_enter Try.func95, Try.ntmps95
    go_wp2_with (first
      | (go_at_call 46; refine (fault_any p _ l k 0 w HR.out).mono ?_; rintro e w1 ⟨rfl, rfl⟩)
      | (go_at_call 96; refine HT.out.mono ?_; rintro e w1 ⟨rfl, hm⟩; have HM := Lib.hid hm; clear hm))
    go_ret
    exact tried_ok HM.out
  · have hf2 : (((f : Int) == 0) = false) := by rw [beq_eq_false_iff_ne]; omega
    have hf3 : (((f : Int) != 0) = true) := by rw [bne_iff_ne]; omega
    have HF := Lib.hid hf; clear hf
    go_enter Try.func95, Try.ntmps95
    go_wp2_with (first
      | (go_at_call 46; refine (fault_any p _ l k 0 w HR.out).mono ?_; rintro e w1 ⟨rfl, rfl⟩)
      | (go_at_call 96; refine HT.out.mono ?_; rintro e w1 ⟨rfl, hm⟩; have c1 : w1.cell? ⟨p, 1, none⟩ = some (.int .i64 k1) := hm.1.1.cell 1; have c2 : w1.cell? ⟨p, 2, none⟩ = some (.int .i64 0) := hm.1.1.cell 2; have f1 : w1.frozen? ⟨p, 1, none⟩ = false := hm.1.1.free 1; have f2 : w1.frozen? ⟨p, 2, none⟩ = false := hm.1.1.free 2; have HM := Lib.hid hm; clear hm))
    go_ret
    exact tried_bad HR.out HM.out HF.out

end Go.Proofs.Ytgchfckmhibeaaa

/-
  What is read of a reader: numbers, counts, texts, flags.
-/
namespace Go.Proofs.Ytgchfckmhibeaaa
open Go.RowKit

/-- Any number of bytes that are there: the string that they make. -/
theorem take_any (p : Nat) (v : Value) (l : List UInt8) (k n : Nat) (w : World) (h : Rdr w p v l k 0) (hn : n ≤ l.length - k) :
    Calls Try.prog 87 #[.pointer (some ⟨p, 0, none⟩), .int .i64 n] w fun e w' => ∃ u, e = .returned (.tuple #[u, .int .i64 0]) ∧
      (convert 22 9 u).run Try.prog w' = .ok (.string ⟨((l.drop k).take n).toArray⟩) w' ∧ Moved w p v l w' (k + n) 0 := by
  obtain ⟨A, c, hv, _⟩ := h.2.1.rd
  subst hv
  exact (take_yes p A c l k 0 n w h hn).mono fun e w' ⟨u, he, hr, hm⟩ => ⟨u, he, hr.string, hm⟩

def rdFlag : List UInt8 → Bool × Nat × Nat
  | [] => (false, 3, 0)
  | b :: _ => if 1 < b.toNat then (false, 4, 1) else (b.toNat == 1, 0, 1)

def rdCount (most : Nat) (l : List UInt8) : Nat × Nat × Nat :=
  if (rdNum l).2.1 ≠ 0 then (0, (rdNum l).2.1, (rdNum l).2.2) else if most < (rdNum l).1 then (0, 4, (rdNum l).2.2) else ((rdNum l).1, 0, (rdNum l).2.2)

def rdText (most : Nat) (l : List UInt8) : List UInt8 × Nat × Nat :=
  if (rdCount most l).2.1 ≠ 0 then ([], (rdCount most l).2.1, (rdCount most l).2.2)
  else if (l.drop (rdCount most l).2.2).length < (rdCount most l).1 then ([], 3, (rdCount most l).2.2)
  else ((l.drop (rdCount most l).2.2).take (rdCount most l).1, 0, (rdCount most l).2.2 + (rdCount most l).1)

def FlagPost (p : Nat) (v : Value) (l : List UInt8) (k : Nat) (w : World) (e : Ending) (w' : World) : Prop :=
  e = .returned (.tuple #[.bool (rdFlag (l.drop k)).1, .int .i64 (rdFlag (l.drop k)).2.1]) ∧ Moved w p v l w' (k + (rdFlag (l.drop k)).2.2) 0

theorem flag_end {p : Nat} {v : Value} {l : List UInt8} {k : Nat} {w w' : World} {val : Bool} {f m : Nat} {r : Bool × Nat × Nat} (hr : r = rdFlag (l.drop k)) (h1 : val = r.1) (h2 : f = r.2.1) (h3 : m = k + r.2.2)
    (hm : Moved w p v l w' m 0) : FlagPost p v l k w (.returned (.tuple #[.bool val, .int .i64 f])) w' := by
  subst h1 h2 h3 hr
  exact ⟨rfl, hm⟩

theorem rdFlag_at (l : List UInt8) (k : Nat) (hl : k < l.length) (x : Nat) (hx : x = (l[k]?.getD 0).toNat) : rdFlag (l.drop k) = if 1 < x then (false, 4, 1) else (x == 1, 0, 1) := by
  rw [List.drop_eq_getElem_cons hl]
  have h2 : (l[k]?.getD 0) = l[k] := by rw [List.getElem?_eq_getElem hl]; rfl
  rw [h2] at hx
  subst hx
  rfl

def CountPost (p : Nat) (v : Value) (l : List UInt8) (k : Nat) (w : World) (most : Nat) (e : Ending) (w' : World) : Prop :=
  e = .returned (.tuple #[.int .i64 (rdCount most (l.drop k)).1, .int .i64 (rdCount most (l.drop k)).2.1]) ∧ Moved w p v l w' (k + (rdCount most (l.drop k)).2.2) 0

theorem count_end {p : Nat} {v : Value} {l : List UInt8} {k : Nat} {w w' : World} {most : Nat} {val : Int} {f m : Nat} {r : Nat × Nat × Nat} (hr : r = rdCount most (l.drop k)) (h1 : val = r.1) (h2 : f = r.2.1) (h3 : m = k + r.2.2)
    (hm : Moved w p v l w' m 0) : CountPost p v l k w most (.returned (.tuple #[.int .i64 val, .int .i64 f])) w' := by
  subst h1 h2 h3 hr
  exact ⟨rfl, hm⟩

set_option maxRecDepth 100000 in
set_option maxHeartbeats 400000 in
theorem count_any (p : Nat) (v : Value) (l : List UInt8) (k : Nat) (w : World) (most : Nat) (hmost : most ≤ 1000000000) (h : Rdr w p v l k 0) :
    Calls Try.prog 97 #[tk p, .int .i64 most] w (CountPost p v l k w most) := by
  have hn := number_any p v l k w h
  clear h
  obtain ⟨⟨n, f, m⟩, hr⟩ : ∃ r, r = rdNum (l.drop k) := ⟨_, rfl⟩
  unfold NumPost at hn
  rw [← hr] at hn
  have HN := Lib.hid hn; clear hn
  have hE : rdCount most (l.drop k) = if f ≠ 0 then (0, f, m) else if most < n then (0, 4, m) else (n, 0, m) := by
    unfold rdCount
    rw [← hr]
  have HE := Lib.hid hE; clear hE hr
  unfold tk at HN ⊢
  by_cases hf : f = 0
  · subst hf
    by_cases hlt : most < n
    · go_enter Try.func97, Try.ntmps97
      go_wp2_with (go_at_call 67; refine HN.out.mono ?_; rintro e w1 ⟨rfl, hm1⟩; have HM1 := Lib.hid hm1; clear hm1)
      go_ret2
      exact count_end (r := (0, 4, m)) (by rw [HE.out, if_neg (by omega), if_pos hlt]) rfl rfl rfl HM1.out
    · go_enter Try.func97, Try.ntmps97
      go_wp2_with (go_at_call 67; refine HN.out.mono ?_; rintro e w1 ⟨rfl, hm1⟩; have HM1 := Lib.hid hm1; clear hm1)
      go_ret2
      exact count_end (r := (n, 0, m)) (by rw [HE.out, if_neg (by omega), if_neg hlt]) rfl rfl rfl HM1.out
  · have hf2 : (((f : Int) == 0) = false) := by rw [beq_eq_false_iff_ne]; omega
    have hf3 : (((f : Int) != 0) = true) := by rw [bne_iff_ne]; omega
    have HF := Lib.hid hf; clear hf
    go_enter Try.func97, Try.ntmps97
    go_wp2_with (go_at_call 67; refine HN.out.mono ?_; rintro e w1 ⟨rfl, hm1⟩; have HM1 := Lib.hid hm1; clear hm1)
    go_ret2
    exact count_end (r := (0, f, m)) (by rw [HE.out, if_pos HF.out]) rfl rfl rfl HM1.out

end Go.Proofs.Ytgchfckmhibeaaa

/-
  A reader's calls, whole.
-/
namespace Go.Proofs.Ytgchfckmhibeaaa
open Go.RowKit

/-- Behind a reader's call: behind a fault nothing is read. -/
def Got (p : Nat) (v : Value) (l : List UInt8) (k f : Nat) (w : World) (none x : Value) (k1 f1 : Nat) (e : Ending) (w' : World) : Prop :=
  (f = 0 → Tried p v l k w none x k1 f1 e w') ∧ (f ≠ 0 → e = .returned none ∧ Moved w p v l w' k f)

theorem Moved.behind {a b c : World} {p : Nat} {v : Value} {l : List UInt8} {k f : Nat} (h : Turn (fun g => g = p) a b) (g : Moved b p v l c k f) : Moved a p v l c k f :=
  ⟨g.1, h.trans g.2 (fun _ _ t => t)⟩

theorem Tried.behind {a b : World} {p : Nat} {v : Value} {l : List UInt8} {k : Nat} {none x : Value} {k1 f : Nat} {e : Ending} {w' : World} (h : Turn (fun g => g = p) a b) (g : Tried p v l k b none x k1 f e w') : Tried p v l k a none x k1 f e w' :=
  ⟨fun n => ⟨(g.1 n).1, (g.1 n).2.behind h⟩, fun n => ⟨(g.2 n).1, (g.2 n).2.behind h⟩⟩

theorem Rdr.alloc {w : World} {p : Nat} {v : Value} {l : List UInt8} {k f : Nat} (h : Rdr w p v l k f) (o : Obj) : Rdr (w.alloc o) p v l k f :=
  h.turn ((Turn.refl (fun _ => False) w).alloc o) (fun f => f) (fun _ _ f => f)

def TextPost (p : Nat) (v : Value) (l : List UInt8) (k : Nat) (w : World) (most : Nat) (e : Ending) (w' : World) : Prop :=
  e = .returned (.tuple #[.string ⟨(rdText most (l.drop k)).1.toArray⟩, .int .i64 (rdText most (l.drop k)).2.1]) ∧ Moved w p v l w' (k + (rdText most (l.drop k)).2.2) 0

theorem text_end {p : Nat} {v : Value} {l : List UInt8} {k : Nat} {w w' : World} {most : Nat} {s : ByteArray} {f m : Nat} {r : List UInt8 × Nat × Nat} (hr : r = rdText most (l.drop k)) (h1 : s = ⟨r.1.toArray⟩) (h2 : f = r.2.1) (h3 : m = k + r.2.2)
    (hm : Moved w p v l w' m 0) : TextPost p v l k w most (.returned (.tuple #[.string s, .int .i64 f])) w' := by
  subst h1 h2 h3 hr
  exact ⟨rfl, hm⟩

theorem count_le (most : Nat) (l : List UInt8) : (rdCount most l).1 ≤ most := by
  unfold rdCount
  split
  · exact Nat.zero_le _
  · split <;> simp_all <;> omega

set_option maxRecDepth 100000 in
set_option maxHeartbeats 400000 in
theorem text_in (p : Nat) (v : Value) (l : List UInt8) (k : Nat) (w : World) (most : Nat) (hmost : most ≤ 1000000) (b : Addr) (hb : w.cell? b = some (.int .i64 most)) (h : Rdr w p v l k 0) :
    Calls Try.prog 103 #[tk p, .pointer (some b)] w (TextPost p v l k w most) := by
  have hn := count_any p v l k w most (Nat.le_trans hmost (by omega)) h
  have hle := count_le most (l.drop k)
  clear h
  obtain ⟨⟨n, f, m⟩, hr⟩ : ∃ r, r = rdCount most (l.drop k) := ⟨_, rfl⟩
  unfold CountPost at hn
  rw [← hr] at hn hle
  have hle2 : n ≤ 1000000 := Nat.le_trans hle hmost
  clear hle
  have HN := Lib.hid hn; clear hn
  have hE : rdText most (l.drop k) = if f ≠ 0 then ([], f, m) else if ((l.drop k).drop m).length < n then ([], 3, m) else (((l.drop k).drop m).take n, 0, m + n) := by
    unfold rdText
    rw [← hr]
  have HE := Lib.hid hE; clear hE hr
  unfold tk at HN ⊢
  by_cases hf : f = 0
  · subst hf
    have hlen : ((l.drop k).drop m).length = l.length - (k + m) := by rw [List.length_drop, List.length_drop]; omega
    by_cases hlt : l.length - (k + m) < n
    · have HL := Lib.hid hlen; clear hlen
      have hnil : ∀ w : World, (convert 22 9 (.slice none 0 0)).run Try.prog w = .ok (.string ⟨#[]⟩) w := fun w => (By.nil w).rd.string
      go_enter Try.func103, Try.ntmps103
      go_wp2_with (first
        | (go_at_call 97; refine HN.out.mono ?_; rintro e w1 ⟨rfl, hm1⟩; have HM1 := Lib.hid hm1; clear hm1)
        | (go_at_call 87; refine (take_no p v l (k + m) 0 n _ HM1.out.1 hlt).mono ?_; rintro e w2 ⟨rfl, q, rfl⟩))
      go_ret2
      exact text_end (r := ([], 3, m)) (by rw [HE.out, if_neg (by omega), if_pos (by rw [HL.out]; exact hlt)]) rfl rfl rfl (HM1.out.drewN q)
    · have HL := Lib.hid hlen; clear hlen
      go_enter Try.func103, Try.ntmps103
      go_wp2_with (first
        | (go_at_call 97; refine HN.out.mono ?_; rintro e w1 ⟨rfl, hm1⟩; have HM1 := Lib.hid hm1; clear hm1)
        | (go_at_call 87; refine (take_any p v l (k + m) n _ HM1.out.1 (by omega)).mono ?_; rintro e w2 ⟨u, rfl, hst, hm2⟩; have HM2 := Lib.hid hm2; clear hm2))
      go_ret2
      refine text_end (r := (((l.drop k).drop m).take n, 0, m + n)) (by rw [HE.out, if_neg (by omega), if_neg (by rw [HL.out]; exact hlt)]) ?_ rfl (Nat.add_assoc _ _ _) (HM1.out.trans HM2.out)
      rw [List.drop_drop]
  · have hf2 : (((f : Int) == 0) = false) := by rw [beq_eq_false_iff_ne]; omega
    have hf3 : (((f : Int) != 0) = true) := by rw [bne_iff_ne]; omega
    have HF := Lib.hid hf; clear hf
    go_enter Try.func103, Try.ntmps103
    go_wp2_with (go_at_call 97; refine HN.out.mono ?_; rintro e w1 ⟨rfl, hm1⟩; have HM1 := Lib.hid hm1; clear hm1)
    go_ret2
    exact text_end (r := ([], f, m)) (by rw [HE.out, if_pos HF.out]) rfl rfl rfl HM1.out

set_option maxRecDepth 100000 in
set_option maxHeartbeats 400000 in
theorem count_in (p : Nat) (v : Value) (l : List UInt8) (k : Nat) (w : World) (most : Nat) (hmost : most ≤ 1000000000) (b : Addr) (hb : w.cell? b = some (.int .i64 most)) (h : Rdr w p v l k 0) :
    Calls Try.prog 96 #[tk p, .pointer (some b)] w (CountPost p v l k w most) := by
  have HN := Lib.hid (count_any p v l k w most hmost h)
  clear h
  unfold tk at HN ⊢
  go_enter Try.func96, Try.ntmps96
  go_wp2_with (go_at_call 97; refine HN.out.mono ?_; rintro e w1 ⟨rfl, hm1⟩; have HM1 := Lib.hid hm1; clear hm1)
  go_ret2
  exact ⟨rfl, HM1.out⟩

set_option maxRecDepth 100000 in
set_option maxHeartbeats 400000 in
theorem read_u64_bad (p : Nat) (v : Value) (l : List UInt8) (k f : Nat) (w : World) (g : Value) (hf : f ≠ 0) (h : Rdr w p v l k f) :
    Calls Try.prog 66 #[.pointer (some ⟨p, 0, none⟩), g] w fun e w' => e = .returned (.int .u64 0) ∧ Moved w p v l w' k f := by
  have HR := Lib.hid h; clear h
  have hf2 : (((f : Int) == 0) = false) := by rw [beq_eq_false_iff_ne]; omega
  have hf3 : (((f : Int) != 0) = true) := by rw [bne_iff_ne]; omega
  clear hf
  go_enter Try.func66, Try.ntmps66
  go_wp2_with (go_at_call 46; refine (fault_any p _ l k f w HR.out).mono ?_; rintro e w1 ⟨rfl, rfl⟩)
  go_ret
  exact ⟨rfl, HR.out, Turn.refl _ _⟩

set_option maxRecDepth 100000 in
set_option maxHeartbeats 400000 in
theorem read_text_bad (p : Nat) (v : Value) (l : List UInt8) (k f : Nat) (w : World) (g : Value) (hf : f ≠ 0) (h : Rdr w p v l k f) :
    Calls Try.prog 102 #[.pointer (some ⟨p, 0, none⟩), g] w fun e w' => e = .returned (.string ⟨#[]⟩) ∧ Moved w p v l w' k f := by
  have HR := Lib.hid h; clear h
  have hf2 : (((f : Int) == 0) = false) := by rw [beq_eq_false_iff_ne]; omega
  have hf3 : (((f : Int) != 0) = true) := by rw [bne_iff_ne]; omega
  clear hf
  go_enter Try.func102, Try.ntmps102
  go_wp2_with (go_at_call 46; refine (fault_any p _ l k f w HR.out).mono ?_; rintro e w1 ⟨rfl, rfl⟩)
  go_ret
  exact ⟨rfl, HR.out, Turn.refl _ _⟩

set_option maxRecDepth 100000 in
set_option maxHeartbeats 400000 in
theorem read_count_bad (p : Nat) (v : Value) (l : List UInt8) (k f : Nat) (w : World) (g : Value) (hf : f ≠ 0) (h : Rdr w p v l k f) :
    Calls Try.prog 95 #[.pointer (some ⟨p, 0, none⟩), g] w fun e w' => e = .returned (.int .i64 0) ∧ Moved w p v l w' k f := by
  have HR := Lib.hid h; clear h
  have hf2 : (((f : Int) == 0) = false) := by rw [beq_eq_false_iff_ne]; omega
  have hf3 : (((f : Int) != 0) = true) := by rw [bne_iff_ne]; omega
  clear hf
  go_enter Try.func95, Try.ntmps95
  go_wp2_with (go_at_call 46; refine (fault_any p _ l k f w HR.out).mono ?_; rintro e w1 ⟨rfl, rfl⟩)
  go_ret
  exact ⟨rfl, HR.out, Turn.refl _ _⟩

theorem Tried.ret {p : Nat} {v : Value} {l : List UInt8} {k : Nat} {w : World} {none x : Value} {k1 f : Nat} {e : Ending} {w' : World} (h : Tried p v l k w none x k1 f e w') : ∃ y, e = .returned y := by
  by_cases hf : f = 0
  · exact ⟨_, (h.1 hf).1⟩
  · exact ⟨_, (h.2 hf).1⟩

theorem Got.ret {p : Nat} {v : Value} {l : List UInt8} {k f : Nat} {w : World} {none x : Value} {k1 f1 : Nat} {e : Ending} {w' : World} (h : Got p v l k f w none x k1 f1 e w') : ∃ y, e = .returned y := by
  by_cases hf : f = 0
  · exact (h.1 hf).ret
  · exact ⟨_, (h.2 hf).1⟩

set_option maxRecDepth 100000 in
set_option maxHeartbeats 400000 in
theorem rnum (p : Nat) (v : Value) (l : List UInt8) (k f : Nat) (w : World) (h : Rdr w p v l k f) :
    Calls Try.prog 45 #[.pointer (some ⟨p, 0, none⟩)] w (Got p v l k f w (.int .u64 0) (.int .u64 (rdNum (l.drop k)).1) (k + (rdNum (l.drop k)).2.2) (rdNum (l.drop k)).2.1) := by
  by_cases hf : f = 0
  · subst hf
    have HT := Lib.hid (read_u64 p v l k w h _ _ _ (number_any p v l k w h))
    clear h
    go_enter Try.func45, Try.ntmps45
    go_wp2_with (go_at_call 66; refine HT.out.mono ?_; intro e w1 ht; obtain ⟨y, rfl⟩ := ht.ret; have HH := Lib.hid ht; clear ht)
    go_ret
    exact ⟨fun _ => HH.out, fun n => absurd rfl n⟩
  · have HT := Lib.hid (read_u64_bad p v l k f w (.func (.func 67) #[] #[]) hf h)
    have HF := Lib.hid hf; clear hf
    clear h
    go_enter Try.func45, Try.ntmps45
    go_wp2_with (go_at_call 66; refine HT.out.mono ?_; rintro e w1 ⟨rfl, hm⟩; have HM := Lib.hid hm; clear hm)
    go_ret
    exact ⟨fun n => absurd n HF.out, fun _ => ⟨rfl, HM.out⟩⟩

set_option maxRecDepth 100000 in
set_option maxHeartbeats 400000 in
theorem rtext (p : Nat) (v : Value) (l : List UInt8) (k f : Nat) (w : World) (most : Nat) (hmost : most ≤ 1000000) (h : Rdr w p v l k f) :
    Calls Try.prog 98 #[.pointer (some ⟨p, 0, none⟩), .int .i64 most] w (Got p v l k f w (.string ⟨#[]⟩) (.string ⟨(rdText most (l.drop k)).1.toArray⟩) (k + (rdText most (l.drop k)).2.2) (rdText most (l.drop k)).2.1) := by
  by_cases hf : f = 0
  · subst hf
    have hb : (w.alloc (.cells #[.int .i64 most] 3)).cell? ⟨w.heap.size, 0, none⟩ = some (.int .i64 most) := (Box.new w 3 #[.int .i64 most]).cell 0
    have HT := Lib.hid (read_text p v l k (w.alloc (.cells #[.int .i64 most] 3)) ⟨w.heap.size, 0, none⟩ (h.alloc _) _ _ _ (text_in p v l k (w.alloc (.cells #[.int .i64 most] 3)) most hmost ⟨w.heap.size, 0, none⟩ hb (h.alloc _)))
    clear h
    go_enter Try.func98, Try.ntmps98
    go_wp2_with (go_at_call 102; refine HT.out.mono ?_; intro e w1 ht; obtain ⟨y, rfl⟩ := ht.ret; have HH := Lib.hid ht; clear ht)
    go_ret
    exact ⟨fun _ => HH.out.behind ((Turn.refl _ w).alloc _), fun n => absurd rfl n⟩
  · have HT := Lib.hid (read_text_bad p v l k f (w.alloc (.cells #[.int .i64 most] 3)) (.func (.func 103) #[] #[.pointer (some ⟨w.heap.size, 0, none⟩)]) hf (h.alloc _))
    have HF := Lib.hid hf; clear hf
    clear h
    go_enter Try.func98, Try.ntmps98
    go_wp2_with (go_at_call 102; refine HT.out.mono ?_; rintro e w1 ⟨rfl, hm⟩; have HM := Lib.hid hm; clear hm)
    go_ret
    exact ⟨fun n => absurd n HF.out, fun _ => ⟨rfl, HM.out.behind ((Turn.refl _ w).alloc _)⟩⟩

set_option maxRecDepth 100000 in
set_option maxHeartbeats 400000 in
theorem rcount (p : Nat) (v : Value) (l : List UInt8) (k f : Nat) (w : World) (most : Nat) (hmost : most ≤ 1000000000) (h : Rdr w p v l k f) :
    Calls Try.prog 85 #[.pointer (some ⟨p, 0, none⟩), .int .i64 most] w (Got p v l k f w (.int .i64 0) (.int .i64 (rdCount most (l.drop k)).1) (k + (rdCount most (l.drop k)).2.2) (rdCount most (l.drop k)).2.1) := by
  by_cases hf : f = 0
  · subst hf
    have hb : (w.alloc (.cells #[.int .i64 most] 3)).cell? ⟨w.heap.size, 0, none⟩ = some (.int .i64 most) := (Box.new w 3 #[.int .i64 most]).cell 0
    have HT := Lib.hid (read_count p v l k (w.alloc (.cells #[.int .i64 most] 3)) ⟨w.heap.size, 0, none⟩ (h.alloc _) _ _ _ (count_in p v l k (w.alloc (.cells #[.int .i64 most] 3)) most hmost ⟨w.heap.size, 0, none⟩ hb (h.alloc _)))
    clear h
    go_enter Try.func85, Try.ntmps85
    go_wp2_with (go_at_call 95; refine HT.out.mono ?_; intro e w1 ht; obtain ⟨y, rfl⟩ := ht.ret; have HH := Lib.hid ht; clear ht)
    go_ret
    exact ⟨fun _ => HH.out.behind ((Turn.refl _ w).alloc _), fun n => absurd rfl n⟩
  · have HT := Lib.hid (read_count_bad p v l k f (w.alloc (.cells #[.int .i64 most] 3)) (.func (.func 96) #[] #[.pointer (some ⟨w.heap.size, 0, none⟩)]) hf (h.alloc _))
    have HF := Lib.hid hf; clear hf
    clear h
    go_enter Try.func85, Try.ntmps85
    go_wp2_with (go_at_call 95; refine HT.out.mono ?_; rintro e w1 ⟨rfl, hm⟩; have HM := Lib.hid hm; clear hm)
    go_ret
    exact ⟨fun n => absurd n HF.out, fun _ => ⟨rfl, HM.out.behind ((Turn.refl _ w).alloc _)⟩⟩

theorem got_bad {p : Nat} {v : Value} {l : List UInt8} {k f : Nat} {w : World} {none x : Value} {k1 f1 : Nat} {e : Ending} {w' : World} (h : Got p v l k f w none x k1 f1 e w') (hn : ¬ (f = 0 ∧ f1 = 0)) :
    e = .returned none ∧ Moved w p v l w' k (if f = 0 then f1 else f) := by
  by_cases hf : f = 0
  · rw [if_pos hf]
    exact (h.1 hf).2 (fun h1 => hn ⟨hf, h1⟩)
  · rw [if_neg hf]
    exact h.2 hf

theorem got_ok {p : Nat} {v : Value} {l : List UInt8} {k f : Nat} {w : World} {none x : Value} {k1 f1 : Nat} {e : Ending} {w' : World} (h : Got p v l k f w none x k1 f1 e w') (hn : f = 0 ∧ f1 = 0) :
    e = .returned x ∧ Moved w p v l w' k1 0 := (h.1 hn.1).1 hn.2

/-- Int's value of a number that was tried. -/
def RInt (p : Nat) (v : Value) (l : List UInt8) (k f : Nat) (w : World) : Ending → World → Prop :=
  Got p v l k f w (.int .i64 0) (.int .i64 (zag (rdNum (l.drop k)).1)) (k + (rdNum (l.drop k)).2.2) (rdNum (l.drop k)).2.1

theorem rdF_lt : ∀ (g i acc : Nat) (l : List UInt8), g + i = 10 → acc < 128 ^ i → (rdF g i acc l).1 < 18446744073709551616
  | 0, i, acc, l, _, _ => by simp [rdF]
  | g + 1, i, acc, [], _, _ => by simp [rdF]
  | g + 1, i, acc, b :: l, h, ha => by
    unfold rdF
    have hb := UInt8.toNat_lt b
    have hp := pow_le i (by omega)
    split
    · refine rdF_lt g (i + 1) _ l (by omega) ?_
      have h1 : (b.toNat - 128) * 128 ^ i ≤ 127 * 128 ^ i := Nat.mul_le_mul_right _ (by omega)
      rw [Nat.pow_succ]
      omega
    · split
      · omega
      · rename_i h1 h2
        show acc + b.toNat * 128 ^ i < 18446744073709551616
        by_cases h9 : i = 9
        · have : b.toNat * 128 ^ i ≤ 1 * 128 ^ i := Nat.mul_le_mul_right _ (by omega)
          omega
        · have h3 : b.toNat * 128 ^ i ≤ 127 * 128 ^ i := Nat.mul_le_mul_right _ (by omega)
          have h4 := pow_le (i + 1) (by omega)
          rw [Nat.pow_succ] at h4
          omega

theorem rdNum_lt (l : List UInt8) : Hid ((rdNum l).1 < 18446744073709551616) := rdF_lt 10 0 0 l (by omega) (by simp)

theorem zag_zero : zag 0 = 0 := by decide

set_option maxRecDepth 100000 in
set_option maxHeartbeats 400000 in
theorem rint (p : Nat) (v : Value) (l : List UInt8) (k f : Nat) (w : World) (h : Rdr w p v l k f) :
    Calls Try.prog 99 #[.pointer (some ⟨p, 0, none⟩)] w (RInt p v l k f w) := by
  have HN := Lib.hid (rnum p v l k f w h)
  clear h
  have HB := Lib.hid (rdNum_lt (l.drop k))
  by_cases hok : f = 0 ∧ (rdNum (l.drop k)).2.1 = 0
  · have HO := Lib.hid hok; clear hok
    go_enter Try.func99, Try.ntmps99
    go_wp2_with (first
      | (go_at_call 45; refine HN.out.mono ?_; intro e w1 hg; obtain ⟨rfl, hm⟩ := (hg.1 HO.out.1).1 HO.out.2; have HM := Lib.hid hm; clear hm; clear hg)
      | (go_at_call 104; refine (back_any (rdNum (l.drop k)).1 w1 HB.out).mono ?_; rintro e w2 ⟨rfl, rfl⟩))
    go_ret
    exact ⟨fun _ => ⟨fun _ => ⟨rfl, HM.out⟩, fun n => absurd HO.out.2 n⟩, fun n => absurd HO.out.1 n⟩
  · have HO := Lib.hid hok; clear hok
    go_enter Try.func99, Try.ntmps99
    go_wp2_with (first
      | (go_at_call 45; refine HN.out.mono ?_; intro e w1 hg; obtain ⟨rfl, hm⟩ := got_bad hg HO.out; have HM := Lib.hid hm; clear hm; clear hg)
      | (go_at_call 104; refine (back_any 0 w1 (by show (0 : Nat) < 18446744073709551616; omega)).mono ?_; rintro e w2 ⟨rfl, rfl⟩))
    go_ret
    exact ⟨fun h0 => ⟨fun h1 => absurd ⟨h0, h1⟩ HO.out, fun _ => ⟨rfl, by have := HM.out; rw [if_pos h0] at this; exact this⟩⟩, fun n => ⟨rfl, by have := HM.out; rw [if_neg n] at this; exact this⟩⟩

end Go.Proofs.Ytgchfckmhibeaaa

/-
  What is put is read as it was, and of fewer bytes it is not: on lists of bytes. A new reader.
-/
namespace Go.Proofs.Ytgchfckmhibeaaa
open Go.RowKit

theorem rdF_enc : ∀ (g n i acc : Nat) (rest : List UInt8), g + i = 9 → (i = 0 ∨ 0 < n) → n < 128 ^ (g + 1) → n * 128 ^ i < 18446744073709551616 →
    rdF (g + 1) i acc (encF g n ++ rest) = (acc + n * 128 ^ i, 0, i + (encF g n).length)
  | 0, n, i, acc, rest, hg, h0, hn, hb => by
    have e9 : i = 9 := by omega
    subst e9
    have h2 : n < 2 := by omega
    have h3 : (low n).toNat = n := low_toNat n (by omega)
    show (if 128 ≤ (low n).toNat then _ else if (0 < 9 ∧ (low n).toNat = 0) ∨ (9 = 9 ∧ 1 < (low n).toNat) then _ else _) = _
    rw [h3, if_neg (by omega), if_neg (by omega)]
    rfl
  | g + 1, n, i, acc, rest, hg, h0, hn, hb => by
    by_cases h : n < 128
    · have e : encF (g + 1) n = [low n] := by unfold encF; rw [if_pos h]
      have h3 : (low n).toNat = n := low_toNat n (by omega)
      rw [e]
      show (if 128 ≤ (low n).toNat then _ else if (0 < i ∧ (low n).toNat = 0) ∨ (i = 9 ∧ 1 < (low n).toNat) then _ else _) = _
      rw [h3, if_neg (by omega), if_neg (by omega)]
      rfl
    · have e : encF (g + 1) n = mid n :: encF g (n / 128) := by
        show (if n < 128 then [low n] else mid n :: encF g (n / 128)) = _
        rw [if_neg h]
      have h3 := mid_toNat n
      have hp : 0 < 128 ^ i := Nat.pow_pos (by omega)
      rw [e]
      show (if 128 ≤ (mid n).toNat then rdF (g + 1) (i + 1) (acc + ((mid n).toNat - 128) * 128 ^ i) (encF g (n / 128) ++ rest) else _) = _
      rw [if_pos (by omega), h3]
      have hd : n / 128 < 128 ^ (g + 1) := by
        rw [Nat.div_lt_iff_lt_mul (by omega), ← Nat.pow_succ]
        exact hn
      have hm : n / 128 * 128 ^ (i + 1) ≤ n * 128 ^ i := by
        rw [Nat.pow_succ, Nat.mul_comm (128 ^ i) 128, ← Nat.mul_assoc]
        exact Nat.mul_le_mul_right (128 ^ i) (Nat.div_mul_le_self n 128)
      have hlt : n / 128 * 128 ^ (i + 1) < 18446744073709551616 := Nat.lt_of_le_of_lt hm hb
      have hq : 0 < n / 128 := Nat.div_pos (by omega) (by omega)
      rw [rdF_enc g (n / 128) (i + 1) _ rest (by omega) (.inr hq) hd hlt]
      refine Prod.ext ?_ (Prod.ext rfl ?_)
      · show acc + (n % 128 + 128 - 128) * 128 ^ i + n / 128 * 128 ^ (i + 1) = acc + n * 128 ^ i
        have e1 : n % 128 + 128 - 128 = n % 128 := by omega
        have e2 : n * 128 ^ i = (n % 128) * 128 ^ i + n / 128 * 128 ^ (i + 1) := by
          rw [Nat.pow_succ, Nat.mul_comm (128 ^ i) 128, ← Nat.mul_assoc, ← Nat.add_mul, show n % 128 + n / 128 * 128 = n from by omega]
        rw [e1, e2]
        omega
      · show i + 1 + (encF g (n / 128)).length = i + (mid n :: encF g (n / 128)).length
        simp only [List.length_cons]
        omega

theorem rdNum_enc (n : Nat) (rest : List UInt8) (hn : Hid (n < 18446744073709551616)) : rdNum (enc n ++ rest) = (n, 0, (enc n).length) := by
  have h : n < 18446744073709551616 := hn
  have := rdF_enc 9 n 0 0 rest rfl (.inl rfl) (num_bound n hn) (by simpa using h)
  unfold rdNum enc
  rw [this]
  simp

theorem rdF_cut : ∀ (g n i acc m : Nat), g + i = 9 → m < (encF g n).length → rdF (g + 1) i acc ((encF g n).take m) = (0, 3, i + m)
  | g, n, i, acc, 0, _, _ => by
    rw [List.take_zero]
    rfl
  | 0, n, i, acc, m + 1, _, hm => absurd hm (by simp [encF])
  | g + 1, n, i, acc, m + 1, hg, hm => by
    by_cases h : n < 128
    · have e : encF (g + 1) n = [low n] := by unfold encF; rw [if_pos h]
      rw [e] at hm
      exact absurd hm (by simp)
    · have e : encF (g + 1) n = mid n :: encF g (n / 128) := by
        show (if n < 128 then [low n] else mid n :: encF g (n / 128)) = _
        rw [if_neg h]
      have h3 := mid_toNat n
      rw [e] at hm ⊢
      rw [List.take_succ_cons]
      show (if 128 ≤ (mid n).toNat then rdF (g + 1) (i + 1) (acc + ((mid n).toNat - 128) * 128 ^ i) ((encF g (n / 128)).take m) else _) = _
      rw [if_pos (by omega), rdF_cut g (n / 128) (i + 1) _ m (by omega) (by simpa using hm)]
      refine Prod.ext rfl (Prod.ext rfl ?_)
      show i + 1 + m = i + (m + 1)
      omega

theorem rdNum_cut (n m : Nat) (hm : m < (enc n).length) : rdNum ((enc n).take m) = (0, 3, m) := by
  have := rdF_cut 9 n 0 0 m rfl hm
  unfold rdNum enc
  rw [this]
  simp

theorem enc_pos (n : Nat) : 0 < (enc n).length := by
  unfold enc encF
  split <;> simp

set_option maxRecDepth 100000 in
set_option maxHeartbeats 400000 in
theorem new_reader (v : Value) (l : List UInt8) (w : World) (hv : Rd w v l) (hl : l.length ≤ 1000000) :
    Calls Try.prog 44 #[v] w fun e w' => ∃ p u, e = .returned (.pointer (some ⟨p, 0, none⟩)) ∧ Rdr w' p u l 0 0 ∧ Turn (fun _ => False) w w' ∧ w.heap.size ≤ p ∧ ∀ k, u.ownBlock = some k → w.heap.size ≤ k := by
  have HV := Lib.hid hv; clear hv
  go_enter Try.func44, Try.ntmps44
  go_wp2_with (go_at_call 41; refine (clone_any v l w HV.out hl).mono ?_; rintro e w1 ⟨u, rfl, hb, ht, hk⟩; obtain ⟨A, c, hu⟩ := hb.shape; subst hu; have HB := Lib.hid hb; clear hb; have HT := Lib.hid ht; clear ht; have HK := Lib.hid hk; clear hk)
  go_ret
  refine ⟨w1.heap.size, .slice A l.length c, rfl, ⟨Box.new _ _ _, HB.out.alloc _, Nat.zero_le _, hl⟩, HT.out.alloc _, HT.out.size, HK.out⟩

end Go.Proofs.Ytgchfckmhibeaaa

/-
  The chapter's example: what must come at any rate.
-/
namespace Go.Proofs.Ytgchfckmhibeaaa
open Go.RowKit

def demo1 : List UInt8 := [172, 2, 1, 2, 97, 98]
theorem demo1_eq : ([] ++ enc 300) ++ enc (zig (-1)) ++ (enc (ByteArray.mk #[97, 98]).size ++ (ByteArray.mk #[97, 98]).data.toList) = demo1 := by decide +kernel
theorem demo1_num : rdNum (demo1.drop 0) = (300, 0, 2) := by decide +kernel

theorem By.at {w : World} {v : Value} {l : List UInt8} (h : By w v l) (hl : 0 < l.length) : ∃ g c, v = .slice (some ⟨g, 0, none⟩) l.length c ∧ l.length ≤ c ∧ ∀ j b, l[j]? = some b → w.cell? ⟨g, j, none⟩ = some (.int .u8 (b.toNat : Int)) := by
  rcases h.form with ⟨_, rfl⟩ | ⟨g, cap, cur, rfl, hb, h1, _⟩
  · exact absurd hl (by simp)
  · refine ⟨g, cap, rfl, h1, fun j b hj => ?_⟩
    have := World.ownsRow.cells h (g := g) rfl j (bv b) (by simp [hj])
    have e : (⟨g, 0, none⟩ : Addr).add j = ⟨g, j, none⟩ := by unfold Addr.add; split <;> simp_all
    rw [e] at this
    exact this

theorem Wr.new (w : World) : Wr (w.alloc (.cells #[.slice none 0 0] 80)) w.heap.size (.slice none 0 0) [] := ⟨Box.new _ _ _, By.nil _⟩

theorem hid_int (n : Int) (h : -1000000 ≤ n) (h2 : n ≤ 1000000) : Hid (-9223372036854775808 ≤ n) ∧ Hid (n ≤ 9223372036854775807) := by
  constructor
  · show -9223372036854775808 ≤ n
    omega
  · show n ≤ 9223372036854775807
    omega

theorem Wr.turn {w w' : World} {p : Nat} {v : Value} {l : List UInt8} {S : Nat → Prop} (h : Wr w p v l) (ht : Turn S w w') (h1 : ¬ S p) (h2 : ∀ g, v.ownBlock = some g → ¬ S g) : Wr w' p v l :=
  ⟨h.1.turn ht h1, h.2.turn ht h2⟩

/-- A writer of the call's own, made since w. -/
def Own (w w1 : World) (p : Nat) (v : Value) (l : List UInt8) : Prop := Wr w1 p v l ∧ Turn (fun _ => False) w w1 ∧ w.heap.size ≤ p ∧ ∀ k, v.ownBlock = some k → w.heap.size ≤ k

theorem Own.put {w w1 w2 : World} {p : Nat} {v u : Value} {l m : List UInt8} (h : Own w w1 p v l) (g : Put w1 p v w2 u m) : Own w w2 p u m := by
  obtain ⟨_, ht, hp, hv⟩ := h
  obtain ⟨hw, gt, gm⟩ := g
  refine ⟨hw, ht.fresh gt ?_, hp, ?_⟩
  · rintro k (rfl | hk)
    · exact hp
    · exact hv k hk
  · intro k hk
    rcases gm with e | e
    · exact hv k (e ▸ hk)
    · have := ht.size
      have := e k hk
      omega

theorem Own.later {w w1 w2 : World} {p : Nat} {v : Value} {l : List UInt8} (h : Own w w1 p v l) (g : Turn (fun _ => False) w1 w2) : Own w w2 p v l :=
  ⟨h.1.turn g (fun f => f) (fun _ _ f => f), h.2.1.fresh g (fun _ f => f.elim), h.2.2⟩

theorem Own.new (w : World) : Own w (w.alloc (.cells #[.slice none 0 0] 80)) w.heap.size (.slice none 0 0) [] :=
  ⟨Wr.new w, (Turn.refl _ w).alloc _, Nat.le_refl _, fun k h => by cases h⟩

end Go.Proofs.Ytgchfckmhibeaaa

/-
  Plain facts on a check's words: one bit, a byte, many bytes; that a word is known by what it becomes.
-/
namespace Go.Proofs.Ytgchfckmhibeaaa
open Go.RowKit

/-- One bit. -/
def stp (w : Nat) : Nat := if w % 2 = 1 then (w / 2) ^^^ 3988292384 else w / 2
/-- n bits. -/
def stps : Nat → Nat → Nat
  | 0, w => w
  | n + 1, w => stp (stps n w)
/-- A byte. -/
def eat (w : Nat) (b : UInt8) : Nat := stps 8 (w ^^^ b.toNat)
/-- Bytes. -/
def eats (w : Nat) (l : List UInt8) : Nat := l.foldl eat w
/-- The check of bytes behind those whose check is s. -/
def more (s : Nat) (l : List UInt8) : Nat := 4294967295 - eats (4294967295 - s) l

theorem stp_lt {w : Nat} (h : w < 4294967296) : stp w < 4294967296 := by
  unfold stp
  split
  · exact Nat.xor_lt_two_pow (n := 32) (by omega) (by omega)
  · omega
theorem stps_lt (n : Nat) {w : Nat} (h : w < 4294967296) : stps n w < 4294967296 := by
  induction n with
  | zero => exact h
  | succ n ih => exact stp_lt ih
theorem mix_lt {w : Nat} (b : UInt8) (h : w < 4294967296) : w ^^^ b.toNat < 4294967296 :=
  Nat.xor_lt_two_pow (n := 32) h (by have := b.toNat_lt; omega)
theorem eat_lt {w : Nat} (b : UInt8) (h : w < 4294967296) : eat w b < 4294967296 := stps_lt 8 (mix_lt b h)
theorem eats_lt {w : Nat} (l : List UInt8) (h : w < 4294967296) : eats w l < 4294967296 := by
  induction l generalizing w with
  | nil => exact h
  | cons b l ih => exact ih (eat_lt b h)
theorem eats_append (w : Nat) (l m : List UInt8) : eats w (l ++ m) = eats (eats w l) m := by unfold eats; rw [List.foldl_append]
theorem eats_take {w : Nat} {l : List UInt8} {k : Nat} {b : UInt8} (h : l[k]? = some b) : eats w (l.take (k + 1)) = eat (eats w (l.take k)) b := by
  obtain ⟨hk, e⟩ := List.getElem?_eq_some_iff.1 h
  rw [List.take_succ_eq_append_getElem hk, eats_append, e]
  rfl
theorem more_lt (s : Nat) (l : List UInt8) : more s l < 4294967296 := by unfold more; omega
theorem more_more (s : Nat) (l m : List UInt8) : more (more s l) m = more s (l ++ m) := by
  unfold more
  rw [eats_append]
  have h := eats_lt l (show 4294967295 - s < 4294967296 by omega)
  have e : 4294967295 - (4294967295 - eats (4294967295 - s) l) = eats (4294967295 - s) l := by omega
  rw [e]

theorem xor_right {a b c : Nat} (h : a ^^^ c = b ^^^ c) : a = b := by
  have := congrArg (· ^^^ c) h
  simpa [Nat.xor_assoc] using this
theorem xor_left {a b c : Nat} (h : c ^^^ a = c ^^^ b) : a = b := by
  rw [Nat.xor_comm c a, Nat.xor_comm c b] at h
  exact xor_right h

/-- The bit that falls is told by the greatest bit behind. -/
theorem stp_inj {a b : Nat} (ha : a < 4294967296) (hb : b < 4294967296) (h : stp a = stp b) : a = b := by
  have key : ∀ x y : Nat, x < 2147483648 → y < 2147483648 → x ^^^ 3988292384 ≠ y := by
    intro x y hx hy e
    have h1 : x ^^^ y < 2 ^ 31 := Nat.xor_lt_two_pow (by omega) (by omega)
    have h2 : x ^^^ y = 3988292384 := by rw [← e, ← Nat.xor_assoc, Nat.xor_self, Nat.zero_xor]
    omega
  unfold stp at h
  split at h
  · split at h
    · have := xor_right h
      omega
    · exact absurd h (key _ _ (by omega) (by omega))
  · split at h
    · exact absurd h.symm (key _ _ (by omega) (by omega))
    · omega
theorem stps_inj (n : Nat) {a b : Nat} (ha : a < 4294967296) (hb : b < 4294967296) (h : stps n a = stps n b) : a = b := by
  induction n with
  | zero => exact h
  | succ n ih => exact ih (stp_inj (stps_lt n ha) (stps_lt n hb) h)
theorem eat_word {a b : Nat} {x : UInt8} (ha : a < 4294967296) (hb : b < 4294967296) (h : eat a x = eat b x) : a = b :=
  xor_right (stps_inj 8 (mix_lt x ha) (mix_lt x hb) h)
theorem eat_byte {w : Nat} {x y : UInt8} (hw : w < 4294967296) (h : eat w x = eat w y) : x = y :=
  UInt8.toNat_inj.1 (xor_left (stps_inj 8 (mix_lt x hw) (mix_lt y hw) h))
theorem eats_word {a b : Nat} (l : List UInt8) (ha : a < 4294967296) (hb : b < 4294967296) (h : eats a l = eats b l) : a = b := by
  induction l generalizing a b with
  | nil => exact h
  | cons x l ih => exact eat_word ha hb (ih (eat_lt x ha) (eat_lt x hb) h)

theorem more_set (s : Nat) (l : List UInt8) (i : Nat) (x y : UInt8) (hi : l[i]? = some x) (h : more s l = more s (l.set i y)) : x = y := by
  obtain ⟨hlt, hx⟩ := List.getElem?_eq_some_iff.1 hi
  have e1 : l = l.take i ++ x :: l.drop (i + 1) := by
    rw [← hx, ← List.drop_eq_getElem_cons hlt, List.take_append_drop]
  have e2 : l.set i y = l.take i ++ y :: l.drop (i + 1) := by
    rw [List.set_eq_take_append_cons_drop, if_pos hlt]
  have hw : 4294967295 - s < 4294967296 := by omega
  have h3 := eats_lt l hw
  have h4 := eats_lt (l.set i y) hw
  have h5 : eats (4294967295 - s) l = eats (4294967295 - s) (l.set i y) := by unfold more at h; omega
  rw [e2] at h5
  have h6 : eats (4294967295 - s) (l.take i ++ x :: l.drop (i + 1)) = eats (4294967295 - s) (l.take i ++ y :: l.drop (i + 1)) := by rw [← e1]; exact h5
  rw [eats_append, eats_append] at h6
  have hw2 := eats_lt (l.take i) hw
  exact eat_byte hw2 (eats_word _ (eat_lt x hw2) (eat_lt y hw2) h6)

/-- The bytes of a check, the lowest first. -/
def tl (n : Nat) : List UInt8 := [UInt8.ofNat (n % 256), UInt8.ofNat (n / 256 % 256), UInt8.ofNat (n / 65536 % 256), UInt8.ofNat (n / 16777216 % 256)]
theorem tl_inj {a b : Nat} (ha : a < 4294967296) (hb : b < 4294967296) (h : tl a = tl b) : a = b := by
  unfold tl at h
  simp only [List.cons.injEq, and_true] at h
  obtain ⟨h0, h1, h2, h3⟩ := h
  have g : ∀ x y : Nat, x < 256 → y < 256 → UInt8.ofNat x = UInt8.ofNat y → x = y := by
    intro x y hx hy e
    have := congrArg UInt8.toNat e
    simpa [UInt8.toNat_ofNat', Nat.mod_eq_of_lt hx, Nat.mod_eq_of_lt hy] using this
  have := g _ _ (by omega) (by omega) h0
  have := g _ _ (by omega) (by omega) h1
  have := g _ _ (by omega) (by omega) h2
  have := g _ _ (by omega) (by omega) h3
  omega

def demo2 : List UInt8 := [49, 50, 51, 52, 53, 54, 55, 56, 57]
theorem demo2_sum : more 0 demo2 = 3421780262 := by decide +kernel

/-- The bit that falls, as a mask. -/
theorem move_val (w : Nat) (h : w < 4294967296) :
    bits BinOp.xor IntKind.u32 ((w / 2 : Nat) : Int) (bits BinOp.and IntKind.u32 3988292384 (IntKind.u32.wrap (-bits BinOp.and IntKind.u32 (w : Int) 1))) = (stp w : Int) := by
  have e1 : bits BinOp.and IntKind.u32 (w : Int) 1 = ((w % 2 : Nat) : Int) := by
    rw [show (1 : Int) = ((1 : Nat) : Int) from rfl, u32_and_nat w 1 h (by omega), nat_mask1]
  rw [e1, IntKind.wrap_u32']
  unfold stp
  split
  · rename_i hp
    have e2 : -((w % 2 : Nat) : Int) % 4294967296 = ((4294967295 : Nat) : Int) := by omega
    rw [e2, show (3988292384 : Int) = ((3988292384 : Nat) : Int) from rfl, u32_and_nat _ _ (by omega) (by omega)]
    have e3 : 3988292384 &&& 4294967295 = 3988292384 := by decide +kernel
    rw [e3, u32_xor_nat _ _ (by omega) (by omega)]
  · rename_i hp
    have e2 : -((w % 2 : Nat) : Int) % 4294967296 = ((0 : Nat) : Int) := by omega
    rw [e2, show (3988292384 : Int) = ((3988292384 : Nat) : Int) from rfl, u32_and_nat _ _ (by omega) (by omega), Nat.and_zero, u32_xor_nat _ _ (by omega) (by omega), Nat.xor_zero]

theorem turn_u32 (w : Nat) (h : w < 4294967296) : bits BinOp.xor IntKind.u32 (w : Int) 4294967295 = ((4294967295 - w : Nat) : Int) := by
  show IntKind.u32.wrap ((BitVec.ofInt 32 (w : Int) ^^^ BitVec.ofInt 32 4294967295).toNat : Int) = _
  have h1 : BitVec.ofInt 32 4294967295 = BitVec.allOnes 32 := by decide +kernel
  rw [h1, BitVec.xor_allOnes, BitVec.toNat_not, ofInt_u32 w h, IntKind.wrap_u32']
  omega

end Go.Proofs.Ytgchfckmhibeaaa
