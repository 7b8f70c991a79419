/-
  Texts laid one behind the other: Of Og.
-/
import Derived.Test.YtieffpngknglpaaJoacak
import Derived.RegionTactic
import Derived.ChangeAlike
import Derived.Deep.QuietTactic
import Derived.BigQuiet
import Derived.WalkMore

/-
  The reader.
-/
namespace Go.Proofs.Ytieffpngknglpaa
open Go.RowKit

/-- A reader in block p: of bytes l, at k, with fault f. -/
def Rdr (w : World) (p : Nat) (v : Value) (l : List UInt8) (k f : Nat) : Prop :=
  Box w p 72 #[v, .int .i64 k, .int .i64 f] ∧ By w v l ∧ k ≤ l.length ∧ l.length ≤ 1000000

theorem Rdr.turn {w w' : World} {p : Nat} {v : Value} {l : List UInt8} {k f : Nat} {S : Nat → Prop} (h : Rdr w p v l k f) (ht : Turn S w w') (h1 : ¬ S p) (h2 : ∀ g, v.ownBlock = some g → ¬ S g) : Rdr w' p v l k f :=
  ⟨h.1.turn ht h1, h.2.1.turn ht h2, h.2.2⟩

/-- Behind a call on a reader. -/
def Moved (w : World) (p : Nat) (v : Value) (l : List UInt8) (w' : World) (k f : Nat) : Prop := Rdr w' p v l k f ∧ Turn (fun g => g = p) w w'

set_option maxRecDepth 100000 in
set_option maxHeartbeats 400000 in
theorem fault_any (p : Nat) (v : Value) (l : List UInt8) (k f : Nat) (w : World) (h : Rdr w p v l k f) :
    Calls Try.prog 32 #[.pointer (some ⟨p, 0, none⟩)] w fun e w' => e = .returned (.int .i64 f) ∧ w = w' := by
  have hc : w.cell? ⟨p, 2, none⟩ = some (.int .i64 f) := h.1.cell 2
  clear h
  go_enter Try.func32, Try.ntmps32
  go_wp2
  go_ret
  exact ⟨rfl, rfl⟩

set_option maxRecDepth 100000 in
set_option maxHeartbeats 400000 in
theorem left_any (p : Nat) (v : Value) (l : List UInt8) (k f : Nat) (w : World) (h : Rdr w p v l k f) :
    Calls Try.prog 33 #[.pointer (some ⟨p, 0, none⟩)] w fun e w' => e = .returned (.int .i64 ((l.length - k : Nat) : Int)) ∧ ∃ n, w' = w.drewN n := by
  obtain ⟨A, c, hv, _⟩ := h.2.1.rd
  subst hv
  have hc : w.cell? ⟨p, 0, none⟩ = some (.slice A l.length c) := h.1.cell 0
  have hd : w.cell? ⟨p, 1, none⟩ = some (.int .i64 k) := h.1.cell 1
  have h1 := h.2.2.1
  have h2 := h.2.2.2
  clear h
  go_enter Try.func33, Try.ntmps33
  go_wp2
  go_quiet (fail)
  go_wp2
  go_ret
  refine ⟨ret_int ?_, _, rfl⟩
  omega

set_option maxRecDepth 100000 in
set_option maxHeartbeats 400000 in
theorem take_no (p : Nat) (v : Value) (l : List UInt8) (k f : Nat) (n : Nat) (w : World) (h : Rdr w p v l k f) (hn : l.length - k < n) :
    Calls Try.prog 48 #[.pointer (some ⟨p, 0, none⟩), .int .i64 n] w fun e w' => e = .returned (.tuple #[.slice none 0 0, .int .i64 3]) ∧ ∃ n, w' = w.drewN n := by
  have HR := Lib.hid h; clear h
  have H1 : l.length - k < n := hn
  go_enter Try.func48, Try.ntmps48
  go_wp2_with (go_at_call 33; refine (left_any p v l k f w HR.out).mono ?_; rintro e w1 ⟨rfl, m, rfl⟩)
  go_ret2
  exact ⟨rfl, _, rfl⟩

theorem take_moved {p : Nat} {A : Option Addr} {c : Nat} {l : List UInt8} {k f n : Nat} {w : World} (h : Rdr w p (.slice A l.length c) l k f) (hn : n ≤ l.length - k) (m : Nat) :
    Moved w p (.slice A l.length c) l ((w.drewN m).setCell ⟨p, 1, none⟩ (.int .i64 ((k : Int) + n))) (k + n) f := by
  obtain ⟨hb, hy, h1, h2⟩ := h
  have hne : (Value.slice A l.length c).ownBlock ≠ some p := hy.ne_box hb (by decide)
  have t : Turn (fun g => g = p) w ((w.drewN m).setCell ⟨p, 1, none⟩ (.int .i64 ((k : Int) + n))) := ((Turn.refl (fun g => g = p) w).drewN m).setCell (p := ⟨p, 1, none⟩) (fun _ => rfl) _
  refine ⟨⟨?_, hy.turn t (fun g hg e => hne (by subst e; exact hg)), by omega, h2⟩, t⟩
  have hb2 : Box (w.drewN m) p 72 #[.slice A l.length c, .int .i64 k, .int .i64 f] := hb
  simpa using hb2.set 1 (.int .i64 ((k : Int) + n))

theorem take_rd0 {p : Nat} {A : Option Addr} {c : Nat} {l : List UInt8} {k f n : Nat} {w : World} (h : Rdr w p (.slice A l.length c) l k f) (hck : c = k) (hn : n ≤ l.length - k) (w' : World) :
    Rd w' (.slice A n 0) ((l.drop k).take n) := by
  have h3 := h.2.1.cap.2.1
  have h4 := h.2.2.1
  have e : n = 0 := by omega
  subst e
  rw [List.take_zero]
  exact ⟨A, 0, rfl, ⟨Nat.le_refl _, Nat.zero_le _⟩, fun _ => ⟨rfl, rfl⟩, fun _ _ j b hj => by simp at hj⟩

theorem take_rd {p : Nat} {A : Option Addr} {c : Nat} {l : List UInt8} {k f n : Nat} {w : World} (h : Rdr w p (.slice A l.length c) l k f) (hck : ¬ c = k) (hn : n ≤ l.length - k) (m : Nat) :
    Rd ((w.drewN m).setCell ⟨p, 1, none⟩ (.int .i64 ((k : Int) + n))) (.slice (A.map fun x => x.add k) n (c - k)) ((l.drop k).take n) := by
  have hm := take_moved h hn m
  obtain ⟨A', c', e, hfit, hnone, hcell⟩ := hm.1.2.1.rd
  injection e with e1 e2 e3
  subst e1 e3
  have h4 := h.2.2.1
  have hl : ((l.drop k).take n).length = n := by rw [List.length_take, List.length_drop]; omega
  refine ⟨A.map fun x => x.add k, c - k, by rw [hl], ⟨by omega, by omega⟩, ?_, ?_⟩
  · intro hA
    have h5 : A = none := by simpa using hA
    obtain ⟨h6, h7⟩ := hnone h5
    subst h6
    simp at h4
    omega
  · intro ad had j b hj
    obtain ⟨ad0, h5, rfl⟩ := Option.map_eq_some_iff.1 had
    rw [add_of_add]
    refine hcell ad0 h5 (k + j) b ?_
    rw [List.getElem?_take] at hj
    split at hj
    · rw [List.getElem?_drop] at hj
      exact hj
    · cases hj

set_option maxRecDepth 100000 in
set_option maxHeartbeats 400000 in
theorem take_yes (p : Nat) (A : Option Addr) (c : Nat) (l : List UInt8) (k f : Nat) (n : Nat) (w : World) (h : Rdr w p (.slice A l.length c) l k f) (hn : n ≤ l.length - k) :
    Calls Try.prog 48 #[.pointer (some ⟨p, 0, none⟩), .int .i64 n] w fun e w' => ∃ u, e = .returned (.tuple #[u, .int .i64 0]) ∧ Rd w' u ((l.drop k).take n) ∧ Moved w p (.slice A l.length c) l w' (k + n) f := by
  have hc : w.cell? ⟨p, 0, none⟩ = some (.slice A l.length c) := h.1.cell 0
  have hd : w.cell? ⟨p, 1, none⟩ = some (.int .i64 k) := h.1.cell 1
  have hf : w.frozen? ⟨p, 1, none⟩ = false := h.1.free 1
  have h1 := h.2.2.1
  have h2 := h.2.2.2
  have hcap := h.2.1.cap
  have HR := Lib.hid h; clear h
  have f1 : IntKind.i64.wrap ((k : Int) + n) = (k : Int) + n := IntWalk.i64_in _ (by omega)
  have f2 : ((k : Int) + n).toNat = k + n := by omega
  have f3 : (k : Int) ≤ (k : Int) + n := by omega
  have f4 : (k : Int) + n ≤ (c : Int) := by omega
  have f5 : 0 ≤ (k : Int) + n := by omega
  have HC := Lib.hid hcap; clear hcap
  by_cases hck : c = k
  · subst hck
    go_enter Try.func48, Try.ntmps48
    go_wp2_with (go_at_call 33; refine (left_any p _ l c f w HR.out).mono ?_; rintro e w1 ⟨rfl, m, rfl⟩)
    go_quiet (fail)
    go_wp2
    go_ret2
    exact ⟨.slice A n 0, rfl, take_rd0 HR.out rfl hn _, take_moved HR.out hn _⟩
  · go_enter Try.func48, Try.ntmps48
    go_wp2_with (go_at_call 33; refine (left_any p _ l k f w HR.out).mono ?_; rintro e w1 ⟨rfl, m, rfl⟩)
    go_quiet (fail)
    go_wp2
    go_ret2
    exact ⟨.slice (A.map fun x => x.add k) n (c - k), rfl, take_rd HR.out hck hn _, take_moved HR.out hn _⟩

end Go.Proofs.Ytieffpngknglpaa

/-
  A number read.
-/
namespace Go.Proofs.Ytieffpngknglpaa
open Go.RowKit

/-- What is read as a number, behind i bytes that came to acc: its value, the fault, how many bytes were taken. -/
def rdF : Nat → Nat → Nat → List UInt8 → Nat × Nat × Nat
  | 0, i, _, _ => (0, 4, i)
  | _ + 1, i, _, [] => (0, 3, i)
  | f + 1, i, acc, b :: l =>
    if 128 ≤ b.toNat then rdF f (i + 1) (acc + (b.toNat - 128) * 128 ^ i) l
    else if (0 < i ∧ b.toNat = 0) ∨ (i = 9 ∧ 1 < b.toNat) then (0, 4, i + 1) else (acc + b.toNat * 128 ^ i, 0, i + 1)
def rdNum (l : List UInt8) : Nat × Nat × Nat := rdF 10 0 0 l

/-- The method value r.take. -/
def tk (p : Nat) : Value := .func (.func 48) #[.pointer (some ⟨p, 0, none⟩)] #[]

def NumPost (p : Nat) (v : Value) (l : List UInt8) (k : Nat) (w : World) (e : Ending) (w' : World) : Prop :=
  e = .returned (.tuple #[.int .u64 (rdNum (l.drop k)).1, .int .i64 (rdNum (l.drop k)).2.1]) ∧ Moved w p v l w' (k + (rdNum (l.drop k)).2.2) 0

def NRel (p : Nat) (v : Value) (l : List UInt8) (k : Nat) (w : World) (x c : Value) (wr : World) (i acc : Nat) : Prop :=
  c = .int .i64 i ∧ i ≤ 10 ∧ (i < 10 → x = .int .u64 acc ∧ acc < 128 ^ i) ∧ rdF (10 - i) i acc (l.drop (k + i)) = rdNum (l.drop k) ∧ Moved w p v l wr (k + i) 0

theorem rdF_step (l : List UInt8) (k i acc : Nat) (hi : i < 10) (hl : k + i < l.length) (x : Nat) (hx : x = (l[k+i]?.getD 0).toNat) :
    rdF (10 - i) i acc (l.drop (k + i)) = if 128 ≤ x then rdF (10 - (i + 1)) (i + 1) (acc + (x - 128) * 128 ^ i) (l.drop (k + (i + 1)))
      else if (0 < i ∧ x = 0) ∨ (i = 9 ∧ 1 < x) then (0, 4, i + 1) else (acc + x * 128 ^ i, 0, i + 1) := by
  have e : 10 - i = (10 - (i + 1)) + 1 := by omega
  rw [e, List.drop_eq_getElem_cons hl]
  have h2 : (l[k+i]?.getD 0) = l[k+i] := by rw [List.getElem?_eq_getElem hl]; rfl
  rw [h2] at hx
  subst hx
  rfl

theorem rdF_none (l : List UInt8) (k i acc : Nat) (hi : i < 10) (hl : ¬ k + i < l.length) : rdF (10 - i) i acc (l.drop (k + i)) = (0, 3, i) := by
  have e : 10 - i = (10 - (i + 1)) + 1 := by omega
  rw [e, List.drop_eq_nil_of_le (by omega)]
  rfl

theorem take_one {p : Nat} {v : Value} {l : List UInt8} {k : Nat} {w : World} (h : Rdr w p v l k 0) (hl : k < l.length) (x : Nat) (hx : x = (l[k]?.getD 0).toNat) :
    Calls Try.prog 48 #[.pointer (some ⟨p, 0, none⟩), .int .i64 1] w fun e w' => ∃ ad c, e = .returned (.tuple #[.slice (some ad) 1 c, .int .i64 0]) ∧
      w'.cell? ad = some (.int .u8 x) ∧ Moved w p v l w' (k + 1) 0 := by
  obtain ⟨A, c, hv, _⟩ := h.2.1.rd
  subst hv
  have hc := take_yes p A c l k 0 1 w h (by omega)
  refine Calls.mono hc ?_
  rintro e w' ⟨u, rfl, hrd, hm⟩
  have e1 : (l.drop k).take 1 = [l[k]] := by
    rw [List.drop_eq_getElem_cons hl]
    rfl
  rw [e1] at hrd
  obtain ⟨A', c', rfl, _, hnone, hcell⟩ := hrd
  cases A' with
  | none => exact absurd (hnone rfl).1 (by simp)
  | some ad =>
    refine ⟨ad, c', rfl, ?_, hm⟩
    have h3 := hcell ad rfl 0 (l[k]) rfl
    have e2 : ad.add 0 = ad := by simp [Addr.add]
    rw [e2] at h3
    rw [h3, hx, List.getElem?_eq_getElem hl]
    rfl

theorem num_end {p : Nat} {v : Value} {l : List UInt8} {k : Nat} {w w' : World} {val : Int} {f m : Nat} {r : Nat × Nat × Nat} (hr : r = rdNum (l.drop k)) (h1 : val = r.1) (h2 : f = r.2.1) (h3 : m = k + r.2.2)
    (hm : Moved w p v l w' m 0) : NumPost p v l k w (.returned (.tuple #[.int .u64 val, .int .i64 f])) w' := by
  subst h1 h2 h3 hr
  exact ⟨rfl, hm⟩

theorem Moved.trans {a b c : World} {p : Nat} {v : Value} {l : List UInt8} {k f k' f' : Nat} (h : Moved a p v l b k f) (g : Moved b p v l c k' f') : Moved a p v l c k' f' :=
  ⟨g.1, h.2.trans g.2 (fun _ _ t => t)⟩
theorem Moved.drewN {a b : World} {p : Nat} {v : Value} {l : List UInt8} {k f : Nat} (h : Moved a p v l b k f) (n : Nat) : Moved a p v l (b.drewN n) k f := ⟨h.1, h.2.drewN n⟩

theorem nrel_step {p : Nat} {v : Value} {l : List UInt8} {k : Nat} {w wr w1 : World} {i acc x : Nat} (h10 : i < 10) (hl : k + i < l.length) (hx : x = (l[k+i]?.getD 0).toNat) (h128 : 128 ≤ x) (hx2 : x < 256)
    (hacc : acc < 128 ^ i) (hrd : rdF (10 - i) i acc (l.drop (k + i)) = rdNum (l.drop k)) (hm : Moved w p v l wr (k + i) 0) (hm1 : Moved wr p v l w1 (k + i + 1) 0) :
    ∃ j a, NRel p v l k w (.int .u64 (bits BinOp.or IntKind.u64 (acc : Int) (IntKind.u64.wrap (((x : Int) - 128) * 2 ^ (7 * i))))) (.int .i64 ((i : Int) + 1)) w1 j a := by
  refine ⟨i + 1, acc + (x - 128) * 128 ^ i, by congr 1, by omega, fun h => ?_, ?_, hm.trans hm1⟩
  · have := or_mid acc x i h128 hx2 (by omega) hacc
    rw [this.1]
    exact ⟨rfl, this.2⟩
  · rw [← hrd, rdF_step l k i acc h10 hl x hx, if_pos h128]

set_option maxRecDepth 100000 in
set_option maxHeartbeats 400000 in
theorem number_any (p : Nat) (v : Value) (l : List UInt8) (k : Nat) (w : World) (h : Rdr w p v l k 0) :
    Calls Try.prog 42 #[tk p] w (NumPost p v l k w) := by
  unfold tk
  go_enter Try.func42, Try.ntmps42
  go_wp2_with fail
  go_step3
  go_wp2_with fail
  go_step3
  go_wp2_with fail
  go_loopw [4, 8] (fun x c wr => ∃ (i acc : Nat), NRel p v l k w x c wr i acc) (fun _ c _ => 10 - (intOf c).toNat)
  case atStart => exact ⟨0, 0, rfl, by omega, fun _ => ⟨rfl, by simp⟩, rfl, h, Turn.refl _ _⟩
  case round =>
    obtain ⟨i, acc, rfl, hi, hx, hrd, hm⟩ := hrel
    by_cases h10 : i < 10
    · obtain ⟨rfl, hacc⟩ := hx h10
      have HA := Lib.hid hacc; clear hacc
      have HD := Lib.hid hrd; clear hrd
      have HM := Lib.hid hm; clear hm
      clear hx
      by_cases hlen : k + i < l.length
      · have HL := Lib.hid hlen; clear hlen
        obtain ⟨x, hx⟩ : ∃ x : Nat, x = (l[k+i]?.getD 0).toNat := ⟨_, rfl⟩
        have hx256 : x < 256 := by rw [hx]; exact UInt8.toNat_lt _
        have HX := Lib.hid hx; clear hx
        have HS := Lib.hid (rdF_step l k i acc h10 HL.out x HX.out)
        have HT := Lib.hid (take_one HM.out.1 HL.out x HX.out)
        by_cases h128 : 128 ≤ x
        · go_wp2_with (go_at_call 48; refine HT.out.mono ?_; rintro e w1 ⟨ad, c, rfl, hcell, hm1⟩; have HM1 := Lib.hid hm1; clear hm1)
          go_roundw
          case rel => exact nrel_step h10 HL.out HX.out h128 hx256 HA.out HD.out HM.out HM1.out
          case measure => simp [intOf]; omega
        · have HE := Lib.hid (HD.out.symm.trans (HS.out.trans (if_neg h128)))
          by_cases hi0 : i = 0
          · subst hi0
            go_wp2_with (go_at_call 48; refine HT.out.mono ?_; rintro e w1 ⟨ad, c, rfl, hcell, hm1⟩; have HM1 := Lib.hid hm1; clear hm1)
            rw [Exit.noGoto_ret]
            go_ret2
            refine num_end (r := (acc + x * 128 ^ 0, 0, 0 + 1)) ?_ ?_ rfl rfl (HM.out.trans HM1.out)
            · rw [HE.out, if_neg (by omega)]
            · have h0 : acc < 128 ^ 0 := HA.out
              have e0 : acc = 0 := by simpa using h0
              subst e0
              rw [bits_or_u64_nat 0 x (by omega) (by omega)]
              simp
          · have hpos : 0 < i := by omega
            clear hi0
            by_cases hx0 : x < 1
            · go_wp2_with (go_at_call 48; refine HT.out.mono ?_; rintro e w1 ⟨ad, c, rfl, hcell, hm1⟩; have HM1 := Lib.hid hm1; clear hm1)
              rw [Exit.noGoto_ret]
              go_ret2
              exact num_end (r := (0, 4, i + 1)) (by rw [HE.out, if_pos (.inl ⟨hpos, by omega⟩)]) rfl rfl rfl (HM.out.trans HM1.out)
            · have hx1 : 1 ≤ x := by omega
              clear hx0
              by_cases h9 : i < 9
              · go_wp2_with (go_at_call 48; refine HT.out.mono ?_; rintro e w1 ⟨ad, c, rfl, hcell, hm1⟩; have HM1 := Lib.hid hm1; clear hm1)
                rw [Exit.noGoto_ret]
                go_ret2
                refine num_end (r := (acc + x * 128 ^ i, 0, i + 1)) ?_ ?_ rfl rfl (HM.out.trans HM1.out)
                · rw [HE.out, if_neg (by omega)]
                · have hp := pow_le i (by omega)
                  have hm : x * 128 ^ i ≤ 1 * 9223372036854775808 ∨ x * 128 ^ i < 128 * 128 ^ i := .inr (Nat.mul_lt_mul_of_pos_right (by omega) (Nat.pow_pos (by omega)))
                  have hp2 := pow_le (i + 1) (by omega)
                  rw [Nat.pow_succ] at hp2
                  exact or_val acc x i (by omega) HA.out (by omega)
              · have h9b : 9 ≤ i := by omega
                clear h9
                by_cases hx2 : x < 2
                · go_wp2_with (go_at_call 48; refine HT.out.mono ?_; rintro e w1 ⟨ad, c, rfl, hcell, hm1⟩; have HM1 := Lib.hid hm1; clear hm1)
                  rw [Exit.noGoto_ret]
                  go_ret2
                  refine num_end (r := (acc + x * 128 ^ i, 0, i + 1)) ?_ ?_ rfl rfl (HM.out.trans HM1.out)
                  · rw [HE.out, if_neg (by omega)]
                  · have hp := pow_le i (by omega)
                    have e1 : x = 1 := by omega
                    have e9 : i = 9 := by omega
                    have h3 := or_val acc x i (by omega) HA.out (by rw [e1]; omega)
                    have e4 : IntKind.u64.wrap ((x : Int) * 2 ^ (7 * i)) = (x : Int) * 9223372036854775808 := by
                      rw [pow_7, e9, e1, IntKind.wrap_u64]
                      decide +kernel
                    rw [e4] at h3
                    exact h3
                · go_wp2_with (go_at_call 48; refine HT.out.mono ?_; rintro e w1 ⟨ad, c, rfl, hcell, hm1⟩; have HM1 := Lib.hid hm1; clear hm1)
                  rw [Exit.noGoto_ret]
                  go_ret2
                  exact num_end (r := (0, 4, i + 1)) (by rw [HE.out, if_pos (.inr ⟨by omega, by omega⟩)]) rfl rfl rfl (HM.out.trans HM1.out)
      · have HL := Lib.hid hlen; clear hlen
        have HN := Lib.hid (take_no p v l (k + i) 0 1 wr HM.out.1 (by have := HL.out; omega))
        have HE := Lib.hid (HD.out.symm.trans (rdF_none l k i acc h10 HL.out))
        go_wp2_with (go_at_call 48; refine HN.out.mono ?_; rintro e w1 ⟨rfl, m, rfl⟩)
        rw [Exit.noGoto_ret]
        go_ret2
        exact num_end HE.out.symm rfl rfl rfl (HM.out.drewN m)
    · have e10 : i = 10 := by omega
      subst e10
      have HD := Lib.hid hrd; clear hrd
      have HM := Lib.hid hm; clear hm
      clear hx
      go_wp2
      rw [Exit.noGoto_ret]
      go_ret2
      exact num_end HD.out rfl rfl rfl HM.out

end Go.Proofs.Ytieffpngknglpaa
