/-
  Texts laid one behind the other: Zj Of Og Oh Oi Oj Ok Ol.
-/
import Derived.Test.YtkkgipieahhmbaaJocac
import Derived.RegionTactic
import Derived.ChangeAlike
import Derived.Deep.QuietTactic
import Derived.BigQuiet
import Derived.WalkMore

/-
  Stage 9: the document's Encode.
-/
namespace Go.Proofs.Ytkkgipieahhmbaa
open Go.RowKit

set_option maxRecDepth 100000

theorem made_behind9 {a b c : World} {v : Value} {l : List UInt8} (h : Turn (fun _ => False) a b) (g : Made b c v l) : Made a c v l :=
  ⟨g.1, h.trans g.2.1 (fun _ _ f => f), fun k hk => Nat.le_trans h.size (g.2.2 k hk)⟩
/-- Bytes put behind bytes of one's own. -/
theorem made_more9 {w wr w2 w3 : World} {A A3 : Option Addr} {n c n3 c3 : Nat} {acc m : List UInt8} (h : Made w wr (.slice A n c) acc) (ht : Turn (fun _ => False) wr w2) (hb : By w3 (.slice A3 n3 c3) (acc ++ m))
    (hg : w2.grownBy w3 (Value.slice A n c).ownBlock) (ha : (Value.slice A3 n3 c3).ownBlock = (Value.slice A n c).ownBlock ∨ (Value.slice A3 n3 c3).ownBlock = some w2.heap.size) : Made w w3 (.slice A3 n3 c3) (acc ++ m) := made_app h ht hb hg ha rfl
/-- A fact's bytes; a batch's. -/
def textB (t : List UInt8) : List UInt8 := enc t.length ++ t
def textsB (k : K9) : Nat → List UInt8
  | 0 => []
  | i + 1 => textsB k i ++ textB (k.dim i)
def factB (n : Nat) (f : F9) : List UInt8 := enc f.k.h.toNat ++ textsB f.k n ++ enc (zig f.v)
def batchB (l : List F9) (n : Nat) : List UInt8 := enc l.length ++ l.flatMap (factB n)
/-- A fact that is right. -/
structure Good9 (f : F9) : Prop where
  h0 : 0 ≤ f.k.h
  h1 : f.k.h ≤ 16777216
  v0 : -1152921504606846976 ≤ f.v
  v1 : f.v ≤ 1152921504606846976
  t : ∀ i, i < 4 → (f.k.dim i).length ≤ 16
theorem good_chk {f : F9} {n : Int} (h : chkF f n = 0) : Good9 f := by
  unfold chkF at h
  split at h
  · split at h
    · rename_i hr
      split at h
      · rename_i ht
        refine ⟨hr.1, hr.2.1, hr.2.2.2, hr.2.2.1, fun i hi => ?_⟩
        simp only [okTexts, okText, Bool.and_eq_true, decide_eq_true_iff] at ht
        match i, hi with
        | 0, _ => exact ht.1.1.1.1
        | 1, _ => exact ht.1.1.2.1
        | 2, _ => exact ht.1.2.1
        | 3, _ => exact ht.2.1
      · cases h
    · cases h
  · cases h
theorem bad_none {n : Int} : ∀ {l : List F9} {i : Nat}, (badAt n l i).1 = 0 → ∀ f ∈ l, chkF f n = 0
  | [], _, _, f, hf => by cases hf
  | g :: t, i, h, f, hf => by
    unfold badAt at h
    split at h
    · rename_i hg
      rcases List.mem_cons.1 hf with rfl | hf
      · exact hg
      · exact bad_none h f hf
    · rename_i hg
      exact absurd h hg
theorem bad_fst {n : Int} : ∀ {l : List F9} {i : Nat}, (badAt n l i).1 = 0 → badAt n l i = (0, 0)
  | [], _, _ => rfl
  | g :: t, i, h => by
    unfold badAt at h ⊢
    split
    · rename_i hg
      rw [if_pos hg] at h
      exact bad_fst h
    · rename_i hg
      rw [if_neg hg] at h
      exact absurd h hg
theorem all_good {l : List F9} {n : Int} (h : (allB l n).1 = 0) : (1 ≤ n ∧ n ≤ 4) ∧ (1 ≤ l.length ∧ l.length ≤ 50) ∧ (∀ f ∈ l, chkF f n = 0) ∧ allB l n = (0, 0) := by
  unfold allB at h ⊢
  split
  · rename_i hc
    rw [if_pos hc] at h
    obtain ⟨h1, h2, h3⟩ := hc
    unfold okDims at h1
    simp only [Bool.and_eq_true, decide_eq_true_iff] at h1
    exact ⟨h1, ⟨h2, h3⟩, bad_none h, bad_fst h⟩
  · rename_i hc
    rw [if_neg hc] at h
    cases h
theorem texts_len (f : F9) (hg : Good9 f) : ∀ k, k ≤ 4 → (textsB f.k k).length ≤ 26 * k
  | 0, _ => Nat.zero_le _
  | k + 1, hk => by
    have ih := texts_len f hg k (by omega)
    have h1 := hg.t k (by omega)
    have h2 := enc_len (f.k.dim k).length
    show (textsB f.k k ++ (enc (f.k.dim k).length ++ f.k.dim k)).length ≤ _
    rw [List.length_append, List.length_append]
    omega
theorem fact_len {f : F9} (hg : Good9 f) {n : Nat} (hn : n ≤ 4) : (factB n f).length ≤ 200 := by
  have h1 := texts_len f hg n hn
  have h2 := enc_len f.k.h.toNat
  have h3 := enc_len (zig f.v)
  unfold factB
  rw [List.length_append, List.length_append]
  omega
/-- What was laid of a batch. -/
def partB (l : List F9) (n i : Nat) : List UInt8 := enc l.length ++ (l.take i).flatMap (factB n)
theorem partB_step {l : List F9} {n i : Nat} {f : F9} (h : l[i]? = some f) : partB l n (i + 1) = partB l n i ++ factB n f := by
  obtain ⟨h0, e⟩ := List.getElem?_eq_some_iff.1 h
  unfold partB
  rw [List.take_succ_eq_append_getElem h0, e, List.flatMap_append, List.append_assoc]
  simp
theorem partB_len {l : List F9} {n : Nat} (hn : n ≤ 4) (hg : ∀ f ∈ l, Good9 f) : ∀ i, (partB l n i).length ≤ 10 + 200 * i
  | 0 => by
    unfold partB
    have := enc_len l.length
    simp
    omega
  | i + 1 => by
    have ih := partB_len hn hg i
    cases h : l[i]? with
    | none =>
      have e : partB l n (i + 1) = partB l n i := by
        unfold partB
        have := List.getElem?_eq_none_iff.1 h
        rw [List.take_of_length_le (by omega), List.take_of_length_le (by omega)]
      rw [e]
      omega
    | some f =>
      rw [partB_step h, List.length_append]
      have := fact_len (hg f (List.mem_of_getElem? h)) hn
      omega
theorem partB_all (l : List F9) (n : Nat) : partB l n l.length = batchB l n := by unfold partB batchB; rw [List.take_length]
/-- Behind Encode: the bytes, or none. -/
def Encd (w : World) (l : List F9) (n : Int) (e : Ending) (w' : World) : Prop :=
  ∃ v, e = .returned (.tuple #[v, .int .i64 (allB l n).1]) ∧ Made w w' v (if (allB l n).1 = 0 then batchB l n.toNat else [])

end Go.Proofs.Ytkkgipieahhmbaa

/-
  The reader.
-/
namespace Go.Proofs.Ytkkgipieahhmbaa
open Go.RowKit

/-- A reader in block p: of bytes l, at k, with fault f. -/
def Rdr (w : World) (p : Nat) (v : Value) (l : List UInt8) (k f : Nat) : Prop :=
  Box w p 65 #[v, .int .i64 k, .int .i64 f] ∧ By w v l ∧ k ≤ l.length ∧ l.length ≤ 1000000

theorem Rdr.turn {w w' : World} {p : Nat} {v : Value} {l : List UInt8} {k f : Nat} {S : Nat → Prop} (h : Rdr w p v l k f) (ht : Turn S w w') (h1 : ¬ S p) (h2 : ∀ g, v.ownBlock = some g → ¬ S g) : Rdr w' p v l k f :=
  ⟨h.1.turn ht h1, h.2.1.turn ht h2, h.2.2⟩

/-- Behind a call on a reader. -/
def Moved (w : World) (p : Nat) (v : Value) (l : List UInt8) (w' : World) (k f : Nat) : Prop := Rdr w' p v l k f ∧ Turn (fun g => g = p) w w'

set_option maxRecDepth 100000 in
set_option maxHeartbeats 400000 in
theorem fault_any (p : Nat) (v : Value) (l : List UInt8) (k f : Nat) (w : World) (h : Rdr w p v l k f) :
    Calls Try.prog 34 #[.pointer (some ⟨p, 0, none⟩)] w fun e w' => e = .returned (.int .i64 f) ∧ w = w' := by
  have hc : w.cell? ⟨p, 2, none⟩ = some (.int .i64 f) := h.1.cell 2
  clear h
  go_enter Try.func34, Try.ntmps34
  go_wp2
  go_ret
  exact ⟨rfl, rfl⟩

set_option maxRecDepth 100000 in
set_option maxHeartbeats 400000 in
theorem left_any (p : Nat) (v : Value) (l : List UInt8) (k f : Nat) (w : World) (h : Rdr w p v l k f) :
    Calls Try.prog 16 #[.pointer (some ⟨p, 0, none⟩)] w fun e w' => e = .returned (.int .i64 ((l.length - k : Nat) : Int)) ∧ ∃ n, w' = w.drewN n := by
  obtain ⟨A, c, hv, _⟩ := h.2.1.rd
  subst hv
  have hc : w.cell? ⟨p, 0, none⟩ = some (.slice A l.length c) := h.1.cell 0
  have hd : w.cell? ⟨p, 1, none⟩ = some (.int .i64 k) := h.1.cell 1
  have h1 := h.2.2.1
  have h2 := h.2.2.2
  clear h
  go_enter Try.func16, Try.ntmps16
  go_wp2
  go_quiet (fail)
  go_wp2
  go_ret
  refine ⟨ret_int ?_, _, rfl⟩
  omega

set_option maxRecDepth 100000 in
set_option maxHeartbeats 400000 in
theorem take_no (p : Nat) (v : Value) (l : List UInt8) (k f : Nat) (n : Nat) (w : World) (h : Rdr w p v l k f) (hn : l.length - k < n) :
    Calls Try.prog 43 #[.pointer (some ⟨p, 0, none⟩), .int .i64 n] w fun e w' => e = .returned (.tuple #[.slice none 0 0, .int .i64 3]) ∧ ∃ n, w' = w.drewN n := by
  have HR := Lib.hid h; clear h
  have H1 : l.length - k < n := hn
  go_enter Try.func43, Try.ntmps43
  go_wp2_with (go_at_call 16; refine (left_any p v l k f w HR.out).mono ?_; rintro e w1 ⟨rfl, m, rfl⟩)
  go_ret2
  exact ⟨rfl, _, rfl⟩

theorem take_moved {p : Nat} {A : Option Addr} {c : Nat} {l : List UInt8} {k f n : Nat} {w : World} (h : Rdr w p (.slice A l.length c) l k f) (hn : n ≤ l.length - k) (m : Nat) :
    Moved w p (.slice A l.length c) l ((w.drewN m).setCell ⟨p, 1, none⟩ (.int .i64 ((k : Int) + n))) (k + n) f := by
  obtain ⟨hb, hy, h1, h2⟩ := h
  have hne : (Value.slice A l.length c).ownBlock ≠ some p := hy.ne_box hb (by decide)
  have t : Turn (fun g => g = p) w ((w.drewN m).setCell ⟨p, 1, none⟩ (.int .i64 ((k : Int) + n))) := ((Turn.refl (fun g => g = p) w).drewN m).setCell (p := ⟨p, 1, none⟩) (fun _ => rfl) _
  refine ⟨⟨?_, hy.turn t (fun g hg e => hne (by subst e; exact hg)), by omega, h2⟩, t⟩
  have hb2 : Box (w.drewN m) p 65 #[.slice A l.length c, .int .i64 k, .int .i64 f] := hb
  simpa using hb2.set 1 (.int .i64 ((k : Int) + n))

theorem take_rd0 {p : Nat} {A : Option Addr} {c : Nat} {l : List UInt8} {k f n : Nat} {w : World} (h : Rdr w p (.slice A l.length c) l k f) (hck : c = k) (hn : n ≤ l.length - k) (w' : World) :
    Rd w' (.slice A n 0) ((l.drop k).take n) := by
  have h3 := h.2.1.cap.2.1
  have h4 := h.2.2.1
  have e : n = 0 := by omega
  subst e
  rw [List.take_zero]
  exact ⟨A, 0, rfl, ⟨Nat.le_refl _, Nat.zero_le _⟩, fun _ => ⟨rfl, rfl⟩, fun _ _ j b hj => by simp at hj⟩

theorem take_rd {p : Nat} {A : Option Addr} {c : Nat} {l : List UInt8} {k f n : Nat} {w : World} (h : Rdr w p (.slice A l.length c) l k f) (hck : ¬ c = k) (hn : n ≤ l.length - k) (m : Nat) :
    Rd ((w.drewN m).setCell ⟨p, 1, none⟩ (.int .i64 ((k : Int) + n))) (.slice (A.map fun x => x.add k) n (c - k)) ((l.drop k).take n) := by
  have hm := take_moved h hn m
  obtain ⟨A', c', e, hfit, hnone, hcell⟩ := hm.1.2.1.rd
  injection e with e1 e2 e3
  subst e1 e3
  have h4 := h.2.2.1
  have hl : ((l.drop k).take n).length = n := by rw [List.length_take, List.length_drop]; omega
  refine ⟨A.map fun x => x.add k, c - k, by rw [hl], ⟨by omega, by omega⟩, ?_, ?_⟩
  · intro hA
    have h5 : A = none := by simpa using hA
    obtain ⟨h6, h7⟩ := hnone h5
    subst h6
    simp at h4
    omega
  · intro ad had j b hj
    obtain ⟨ad0, h5, rfl⟩ := Option.map_eq_some_iff.1 had
    rw [add_of_add]
    refine hcell ad0 h5 (k + j) b ?_
    rw [List.getElem?_take] at hj
    split at hj
    · rw [List.getElem?_drop] at hj
      exact hj
    · cases hj

set_option maxRecDepth 100000 in
set_option maxHeartbeats 400000 in
theorem take_yes (p : Nat) (A : Option Addr) (c : Nat) (l : List UInt8) (k f : Nat) (n : Nat) (w : World) (h : Rdr w p (.slice A l.length c) l k f) (hn : n ≤ l.length - k) :
    Calls Try.prog 43 #[.pointer (some ⟨p, 0, none⟩), .int .i64 n] w fun e w' => ∃ u, e = .returned (.tuple #[u, .int .i64 0]) ∧ Rd w' u ((l.drop k).take n) ∧ Moved w p (.slice A l.length c) l w' (k + n) f := by
  have hc : w.cell? ⟨p, 0, none⟩ = some (.slice A l.length c) := h.1.cell 0
  have hd : w.cell? ⟨p, 1, none⟩ = some (.int .i64 k) := h.1.cell 1
  have hf : w.frozen? ⟨p, 1, none⟩ = false := h.1.free 1
  have h1 := h.2.2.1
  have h2 := h.2.2.2
  have hcap := h.2.1.cap
  have HR := Lib.hid h; clear h
  have f1 : IntKind.i64.wrap ((k : Int) + n) = (k : Int) + n := IntWalk.i64_in _ (by omega)
  have f2 : ((k : Int) + n).toNat = k + n := by omega
  have f3 : (k : Int) ≤ (k : Int) + n := by omega
  have f4 : (k : Int) + n ≤ (c : Int) := by omega
  have f5 : 0 ≤ (k : Int) + n := by omega
  have HC := Lib.hid hcap; clear hcap
  by_cases hck : c = k
  · subst hck
    go_enter Try.func43, Try.ntmps43
    go_wp2_with (go_at_call 16; refine (left_any p _ l c f w HR.out).mono ?_; rintro e w1 ⟨rfl, m, rfl⟩)
    go_quiet (fail)
    go_wp2
    go_ret2
    exact ⟨.slice A n 0, rfl, take_rd0 HR.out rfl hn _, take_moved HR.out hn _⟩
  · go_enter Try.func43, Try.ntmps43
    go_wp2_with (go_at_call 16; refine (left_any p _ l k f w HR.out).mono ?_; rintro e w1 ⟨rfl, m, rfl⟩)
    go_quiet (fail)
    go_wp2
    go_ret2
    exact ⟨.slice (A.map fun x => x.add k) n (c - k), rfl, take_rd HR.out hck hn _, take_moved HR.out hn _⟩

end Go.Proofs.Ytkkgipieahhmbaa

/-
  A number read.
-/
namespace Go.Proofs.Ytkkgipieahhmbaa
open Go.RowKit

/-- What is read as a number, behind i bytes that came to acc: its value, the fault, how many bytes were taken. -/
def rdF : Nat → Nat → Nat → List UInt8 → Nat × Nat × Nat
  | 0, i, _, _ => (0, 4, i)
  | _ + 1, i, _, [] => (0, 3, i)
  | f + 1, i, acc, b :: l =>
    if 128 ≤ b.toNat then rdF f (i + 1) (acc + (b.toNat - 128) * 128 ^ i) l
    else if (0 < i ∧ b.toNat = 0) ∨ (i = 9 ∧ 1 < b.toNat) then (0, 4, i + 1) else (acc + b.toNat * 128 ^ i, 0, i + 1)
def rdNum (l : List UInt8) : Nat × Nat × Nat := rdF 10 0 0 l

/-- The method value r.take. -/
def tk (p : Nat) : Value := .func (.func 43) #[.pointer (some ⟨p, 0, none⟩)] #[]

def NumPost (p : Nat) (v : Value) (l : List UInt8) (k : Nat) (w : World) (e : Ending) (w' : World) : Prop :=
  e = .returned (.tuple #[.int .u64 (rdNum (l.drop k)).1, .int .i64 (rdNum (l.drop k)).2.1]) ∧ Moved w p v l w' (k + (rdNum (l.drop k)).2.2) 0

def NRel (p : Nat) (v : Value) (l : List UInt8) (k : Nat) (w : World) (x c : Value) (wr : World) (i acc : Nat) : Prop :=
  c = .int .i64 i ∧ i ≤ 10 ∧ (i < 10 → x = .int .u64 acc ∧ acc < 128 ^ i) ∧ rdF (10 - i) i acc (l.drop (k + i)) = rdNum (l.drop k) ∧ Moved w p v l wr (k + i) 0

theorem rdF_step (l : List UInt8) (k i acc : Nat) (hi : i < 10) (hl : k + i < l.length) (x : Nat) (hx : x = (l[k+i]?.getD 0).toNat) :
    rdF (10 - i) i acc (l.drop (k + i)) = if 128 ≤ x then rdF (10 - (i + 1)) (i + 1) (acc + (x - 128) * 128 ^ i) (l.drop (k + (i + 1)))
      else if (0 < i ∧ x = 0) ∨ (i = 9 ∧ 1 < x) then (0, 4, i + 1) else (acc + x * 128 ^ i, 0, i + 1) := by
  have e : 10 - i = (10 - (i + 1)) + 1 := by omega
  rw [e, List.drop_eq_getElem_cons hl]
  have h2 : (l[k+i]?.getD 0) = l[k+i] := by rw [List.getElem?_eq_getElem hl]; rfl
  rw [h2] at hx
  subst hx
  rfl

theorem rdF_none (l : List UInt8) (k i acc : Nat) (hi : i < 10) (hl : ¬ k + i < l.length) : rdF (10 - i) i acc (l.drop (k + i)) = (0, 3, i) := by
  have e : 10 - i = (10 - (i + 1)) + 1 := by omega
  rw [e, List.drop_eq_nil_of_le (by omega)]
  rfl

theorem take_one {p : Nat} {v : Value} {l : List UInt8} {k : Nat} {w : World} (h : Rdr w p v l k 0) (hl : k < l.length) (x : Nat) (hx : x = (l[k]?.getD 0).toNat) :
    Calls Try.prog 43 #[.pointer (some ⟨p, 0, none⟩), .int .i64 1] w fun e w' => ∃ ad c, e = .returned (.tuple #[.slice (some ad) 1 c, .int .i64 0]) ∧
      w'.cell? ad = some (.int .u8 x) ∧ Moved w p v l w' (k + 1) 0 := by
  obtain ⟨A, c, hv, _⟩ := h.2.1.rd
  subst hv
  have hc := take_yes p A c l k 0 1 w h (by omega)
  refine Calls.mono hc ?_
  rintro e w' ⟨u, rfl, hrd, hm⟩
  have e1 : (l.drop k).take 1 = [l[k]] := by
    rw [List.drop_eq_getElem_cons hl]
    rfl
  rw [e1] at hrd
  obtain ⟨A', c', rfl, _, hnone, hcell⟩ := hrd
  cases A' with
  | none => exact absurd (hnone rfl).1 (by simp)
  | some ad =>
    refine ⟨ad, c', rfl, ?_, hm⟩
    have h3 := hcell ad rfl 0 (l[k]) rfl
    have e2 : ad.add 0 = ad := by simp [Addr.add]
    rw [e2] at h3
    rw [h3, hx, List.getElem?_eq_getElem hl]
    rfl

theorem num_end {p : Nat} {v : Value} {l : List UInt8} {k : Nat} {w w' : World} {val : Int} {f m : Nat} {r : Nat × Nat × Nat} (hr : r = rdNum (l.drop k)) (h1 : val = r.1) (h2 : f = r.2.1) (h3 : m = k + r.2.2)
    (hm : Moved w p v l w' m 0) : NumPost p v l k w (.returned (.tuple #[.int .u64 val, .int .i64 f])) w' := by
  subst h1 h2 h3 hr
  exact ⟨rfl, hm⟩

theorem Moved.trans {a b c : World} {p : Nat} {v : Value} {l : List UInt8} {k f k' f' : Nat} (h : Moved a p v l b k f) (g : Moved b p v l c k' f') : Moved a p v l c k' f' :=
  ⟨g.1, h.2.trans g.2 (fun _ _ t => t)⟩
theorem Moved.drewN {a b : World} {p : Nat} {v : Value} {l : List UInt8} {k f : Nat} (h : Moved a p v l b k f) (n : Nat) : Moved a p v l (b.drewN n) k f := ⟨h.1, h.2.drewN n⟩

theorem nrel_step {p : Nat} {v : Value} {l : List UInt8} {k : Nat} {w wr w1 : World} {i acc x : Nat} (h10 : i < 10) (hl : k + i < l.length) (hx : x = (l[k+i]?.getD 0).toNat) (h128 : 128 ≤ x) (hx2 : x < 256)
    (hacc : acc < 128 ^ i) (hrd : rdF (10 - i) i acc (l.drop (k + i)) = rdNum (l.drop k)) (hm : Moved w p v l wr (k + i) 0) (hm1 : Moved wr p v l w1 (k + i + 1) 0) :
    ∃ j a, NRel p v l k w (.int .u64 (bits BinOp.or IntKind.u64 (acc : Int) (IntKind.u64.wrap (((x : Int) - 128) * 2 ^ (7 * i))))) (.int .i64 ((i : Int) + 1)) w1 j a := by
  refine ⟨i + 1, acc + (x - 128) * 128 ^ i, by congr 1, by omega, fun h => ?_, ?_, hm.trans hm1⟩
  · have := or_mid acc x i h128 hx2 (by omega) hacc
    rw [this.1]
    exact ⟨rfl, this.2⟩
  · rw [← hrd, rdF_step l k i acc h10 hl x hx, if_pos h128]

set_option maxRecDepth 100000 in
set_option maxHeartbeats 400000 in
theorem number_any (p : Nat) (v : Value) (l : List UInt8) (k : Nat) (w : World) (h : Rdr w p v l k 0) :
    Calls Try.prog 40 #[tk p] w (NumPost p v l k w) := by
  unfold tk
  go_enter Try.func40, Try.ntmps40
  go_wp2_with fail
  go_step3
  go_wp2_with fail
  go_step3
  go_wp2_with fail
  go_loopw [4, 8] (fun x c wr => ∃ (i acc : Nat), NRel p v l k w x c wr i acc) (fun _ c _ => 10 - (intOf c).toNat)
  case atStart => exact ⟨0, 0, rfl, by omega, fun _ => ⟨rfl, by simp⟩, rfl, h, Turn.refl _ _⟩
  case round =>
    obtain ⟨i, acc, rfl, hi, hx, hrd, hm⟩ := hrel
    by_cases h10 : i < 10
    · obtain ⟨rfl, hacc⟩ := hx h10
      have HA := Lib.hid hacc; clear hacc
      have HD := Lib.hid hrd; clear hrd
      have HM := Lib.hid hm; clear hm
      clear hx
      by_cases hlen : k + i < l.length
      · have HL := Lib.hid hlen; clear hlen
        obtain ⟨x, hx⟩ : ∃ x : Nat, x = (l[k+i]?.getD 0).toNat := ⟨_, rfl⟩
        have hx256 : x < 256 := by rw [hx]; exact UInt8.toNat_lt _
        have HX := Lib.hid hx; clear hx
        have HS := Lib.hid (rdF_step l k i acc h10 HL.out x HX.out)
        have HT := Lib.hid (take_one HM.out.1 HL.out x HX.out)
        by_cases h128 : 128 ≤ x
        · go_wp2_with (go_at_call 43; refine HT.out.mono ?_; rintro e w1 ⟨ad, c, rfl, hcell, hm1⟩; have HM1 := Lib.hid hm1; clear hm1)
          go_roundw
          case rel => exact nrel_step h10 HL.out HX.out h128 hx256 HA.out HD.out HM.out HM1.out
          case measure => simp [intOf]; omega
        · have HE := Lib.hid (HD.out.symm.trans (HS.out.trans (if_neg h128)))
          by_cases hi0 : i = 0
          · subst hi0
            go_wp2_with (go_at_call 43; refine HT.out.mono ?_; rintro e w1 ⟨ad, c, rfl, hcell, hm1⟩; have HM1 := Lib.hid hm1; clear hm1)
            rw [Exit.noGoto_ret]
            go_ret2
            refine num_end (r := (acc + x * 128 ^ 0, 0, 0 + 1)) ?_ ?_ rfl rfl (HM.out.trans HM1.out)
            · rw [HE.out, if_neg (by omega)]
            · have h0 : acc < 128 ^ 0 := HA.out
              have e0 : acc = 0 := by simpa using h0
              subst e0
              rw [bits_or_u64_nat 0 x (by omega) (by omega)]
              simp
          · have hpos : 0 < i := by omega
            clear hi0
            by_cases hx0 : x < 1
            · go_wp2_with (go_at_call 43; refine HT.out.mono ?_; rintro e w1 ⟨ad, c, rfl, hcell, hm1⟩; have HM1 := Lib.hid hm1; clear hm1)
              rw [Exit.noGoto_ret]
              go_ret2
              exact num_end (r := (0, 4, i + 1)) (by rw [HE.out, if_pos (.inl ⟨hpos, by omega⟩)]) rfl rfl rfl (HM.out.trans HM1.out)
            · have hx1 : 1 ≤ x := by omega
              clear hx0
              by_cases h9 : i < 9
              · go_wp2_with (go_at_call 43; refine HT.out.mono ?_; rintro e w1 ⟨ad, c, rfl, hcell, hm1⟩; have HM1 := Lib.hid hm1; clear hm1)
                rw [Exit.noGoto_ret]
                go_ret2
                refine num_end (r := (acc + x * 128 ^ i, 0, i + 1)) ?_ ?_ rfl rfl (HM.out.trans HM1.out)
                · rw [HE.out, if_neg (by omega)]
                · have hp := pow_le i (by omega)
                  have hm : x * 128 ^ i ≤ 1 * 9223372036854775808 ∨ x * 128 ^ i < 128 * 128 ^ i := .inr (Nat.mul_lt_mul_of_pos_right (by omega) (Nat.pow_pos (by omega)))
                  have hp2 := pow_le (i + 1) (by omega)
                  rw [Nat.pow_succ] at hp2
                  exact or_val acc x i (by omega) HA.out (by omega)
              · have h9b : 9 ≤ i := by omega
                clear h9
                by_cases hx2 : x < 2
                · go_wp2_with (go_at_call 43; refine HT.out.mono ?_; rintro e w1 ⟨ad, c, rfl, hcell, hm1⟩; have HM1 := Lib.hid hm1; clear hm1)
                  rw [Exit.noGoto_ret]
                  go_ret2
                  refine num_end (r := (acc + x * 128 ^ i, 0, i + 1)) ?_ ?_ rfl rfl (HM.out.trans HM1.out)
                  · rw [HE.out, if_neg (by omega)]
                  · have hp := pow_le i (by omega)
                    have e1 : x = 1 := by omega
                    have e9 : i = 9 := by omega
                    have h3 := or_val acc x i (by omega) HA.out (by rw [e1]; omega)
                    have e4 : IntKind.u64.wrap ((x : Int) * 2 ^ (7 * i)) = (x : Int) * 9223372036854775808 := by
                      rw [pow_7, e9, e1, IntKind.wrap_u64]
                      decide +kernel
                    rw [e4] at h3
                    exact h3
                · go_wp2_with (go_at_call 43; refine HT.out.mono ?_; rintro e w1 ⟨ad, c, rfl, hcell, hm1⟩; have HM1 := Lib.hid hm1; clear hm1)
                  rw [Exit.noGoto_ret]
                  go_ret2
                  exact num_end (r := (0, 4, i + 1)) (by rw [HE.out, if_pos (.inr ⟨by omega, by omega⟩)]) rfl rfl rfl (HM.out.trans HM1.out)
      · have HL := Lib.hid hlen; clear hlen
        have HN := Lib.hid (take_no p v l (k + i) 0 1 wr HM.out.1 (by have := HL.out; omega))
        have HE := Lib.hid (HD.out.symm.trans (rdF_none l k i acc h10 HL.out))
        go_wp2_with (go_at_call 43; refine HN.out.mono ?_; rintro e w1 ⟨rfl, m, rfl⟩)
        rw [Exit.noGoto_ret]
        go_ret2
        exact num_end HE.out.symm rfl rfl rfl (HM.out.drewN m)
    · have e10 : i = 10 := by omega
      subst e10
      have HD := Lib.hid hrd; clear hrd
      have HM := Lib.hid hm; clear hm
      clear hx
      go_wp2
      rw [Exit.noGoto_ret]
      go_ret2
      exact num_end HD.out rfl rfl rfl HM.out

end Go.Proofs.Ytkkgipieahhmbaa

/-
  What a reader's calls read: all of a thing, or a fault.
-/
namespace Go.Proofs.Ytkkgipieahhmbaa
open Go.RowKit

/-- Behind a thing that was tried: with a fault nothing but that has changed. -/
def Tried (p : Nat) (v : Value) (l : List UInt8) (k : Nat) (w : World) (none x : Value) (k1 f : Nat) (e : Ending) (w' : World) : Prop :=
  (f = 0 → e = .returned x ∧ Moved w p v l w' k1 0) ∧ (f ≠ 0 → e = .returned none ∧ Moved w p v l w' k f)

theorem tried_ok {p : Nat} {v : Value} {l : List UInt8} {k : Nat} {w : World} {none x : Value} {k1 : Nat} {w' : World} (h : Moved w p v l w' k1 0) : Tried p v l k w none x k1 0 (.returned x) w' :=
  ⟨fun _ => ⟨rfl, h⟩, fun n => absurd rfl n⟩

theorem tried_bad {p : Nat} {v : Value} {l : List UInt8} {k : Nat} {w : World} {none x : Value} {k1 f : Nat} {w1 : World} (h0 : Rdr w p v l k 0) (h : Moved w p v l w1 k1 0) (hf : f ≠ 0) :
    Tried p v l k w none x k1 f (.returned none) ((w1.setCell ⟨p, 1, Option.none⟩ (.int .i64 k)).setCell ⟨p, 2, Option.none⟩ (.int .i64 f)) := by
  refine ⟨fun n => absurd n hf, fun _ => ⟨rfl, ?_⟩⟩
  obtain ⟨⟨hb, hy, _, h2⟩, ht⟩ := h
  have hne : v.ownBlock ≠ some p := hy.ne_box hb (by decide)
  have t : Turn (fun g => g = p) w1 ((w1.setCell ⟨p, 1, Option.none⟩ (.int .i64 k)).setCell ⟨p, 2, Option.none⟩ (.int .i64 f)) :=
    ((Turn.refl (fun g => g = p) w1).setCell (p := ⟨p, 1, Option.none⟩) (fun _ => rfl) _).setCell (p := ⟨p, 2, Option.none⟩) (fun _ => rfl) _
  refine ⟨⟨?_, hy.turn t (fun g hg e => hne (by subst e; exact hg)), h0.2.2.1, h2⟩, ht.trans t (fun _ _ s => s)⟩
  simpa using (hb.set 1 (.int .i64 (k : Int))).set 2 (.int .i64 (f : Int))

set_option maxRecDepth 100000 in
set_option maxHeartbeats 400000 in
theorem read_u64 (p : Nat) (v : Value) (l : List UInt8) (k : Nat) (w : World)  (h : Rdr w p v l k 0) (x : Int) (k1 f : Nat)
    (ht : Calls Try.prog 40 #[tk p] w fun e w1 => e = .returned (.tuple #[(.int .u64 x), .int .i64 f]) ∧ Moved w p v l w1 k1 0) :
    Calls Try.prog 39 #[.pointer (some ⟨p, 0, none⟩), (.func (.func 40) #[] #[])] w (Tried p v l k w (.int .u64 0) (.int .u64 x) k1 f) := by
  have hc : w.cell? ⟨p, 1, none⟩ = some (.int .i64 k) := h.1.cell 1
  have HR := Lib.hid h; clear h
  have HT := Lib.hid ht; clear ht
  unfold tk at HT
  by_cases hf : f = 0
  · subst hf
    go_enter Try.func39, Try.ntmps39
    go_wp2_with (first
      | (go_at_call 34; refine (fault_any p _ l k 0 w HR.out).mono ?_; rintro e w1 ⟨rfl, rfl⟩)
      | (go_at_call 40; refine HT.out.mono ?_; rintro e w1 ⟨rfl, hm⟩; have HM := Lib.hid hm; clear hm))
    go_ret
    exact tried_ok HM.out
  · have hf2 : (((f : Int) == 0) = false) := by rw [beq_eq_false_iff_ne]; omega
    have hf3 : (((f : Int) != 0) = true) := by rw [bne_iff_ne]; omega
    have HF := Lib.hid hf; clear hf
    go_enter Try.func39, Try.ntmps39
    go_wp2_with (first
      | (go_at_call 34; refine (fault_any p _ l k 0 w HR.out).mono ?_; rintro e w1 ⟨rfl, rfl⟩)
      | (go_at_call 40; refine HT.out.mono ?_; rintro e w1 ⟨rfl, hm⟩; have c1 : w1.cell? ⟨p, 1, none⟩ = some (.int .i64 k1) := hm.1.1.cell 1; have c2 : w1.cell? ⟨p, 2, none⟩ = some (.int .i64 0) := hm.1.1.cell 2; have f1 : w1.frozen? ⟨p, 1, none⟩ = false := hm.1.1.free 1; have f2 : w1.frozen? ⟨p, 2, none⟩ = false := hm.1.1.free 2; have HM := Lib.hid hm; clear hm))
    go_ret
    exact tried_bad HR.out HM.out HF.out

end Go.Proofs.Ytkkgipieahhmbaa

/-
  What is read of a reader: numbers, counts, texts, flags.
-/
namespace Go.Proofs.Ytkkgipieahhmbaa
open Go.RowKit

/-- Any number of bytes that are there: the string that they make. -/
theorem take_any (p : Nat) (v : Value) (l : List UInt8) (k n : Nat) (w : World) (h : Rdr w p v l k 0) (hn : n ≤ l.length - k) :
    Calls Try.prog 43 #[.pointer (some ⟨p, 0, none⟩), .int .i64 n] w fun e w' => ∃ u, e = .returned (.tuple #[u, .int .i64 0]) ∧
      (convert 24 9 u).run Try.prog w' = .ok (.string ⟨((l.drop k).take n).toArray⟩) w' ∧ Moved w p v l w' (k + n) 0 := by
  obtain ⟨A, c, hv, _⟩ := h.2.1.rd
  subst hv
  exact (take_yes p A c l k 0 n w h hn).mono fun e w' ⟨u, he, hr, hm⟩ => ⟨u, he, hr.string, hm⟩

def rdFlag : List UInt8 → Bool × Nat × Nat
  | [] => (false, 3, 0)
  | b :: _ => if 1 < b.toNat then (false, 4, 1) else (b.toNat == 1, 0, 1)

def rdCount (most : Nat) (l : List UInt8) : Nat × Nat × Nat :=
  if (rdNum l).2.1 ≠ 0 then (0, (rdNum l).2.1, (rdNum l).2.2) else if most < (rdNum l).1 then (0, 4, (rdNum l).2.2) else ((rdNum l).1, 0, (rdNum l).2.2)

def rdText (most : Nat) (l : List UInt8) : List UInt8 × Nat × Nat :=
  if (rdCount most l).2.1 ≠ 0 then ([], (rdCount most l).2.1, (rdCount most l).2.2)
  else if (l.drop (rdCount most l).2.2).length < (rdCount most l).1 then ([], 3, (rdCount most l).2.2)
  else ((l.drop (rdCount most l).2.2).take (rdCount most l).1, 0, (rdCount most l).2.2 + (rdCount most l).1)

def FlagPost (p : Nat) (v : Value) (l : List UInt8) (k : Nat) (w : World) (e : Ending) (w' : World) : Prop :=
  e = .returned (.tuple #[.bool (rdFlag (l.drop k)).1, .int .i64 (rdFlag (l.drop k)).2.1]) ∧ Moved w p v l w' (k + (rdFlag (l.drop k)).2.2) 0

theorem flag_end {p : Nat} {v : Value} {l : List UInt8} {k : Nat} {w w' : World} {val : Bool} {f m : Nat} {r : Bool × Nat × Nat} (hr : r = rdFlag (l.drop k)) (h1 : val = r.1) (h2 : f = r.2.1) (h3 : m = k + r.2.2)
    (hm : Moved w p v l w' m 0) : FlagPost p v l k w (.returned (.tuple #[.bool val, .int .i64 f])) w' := by
  subst h1 h2 h3 hr
  exact ⟨rfl, hm⟩

theorem rdFlag_at (l : List UInt8) (k : Nat) (hl : k < l.length) (x : Nat) (hx : x = (l[k]?.getD 0).toNat) : rdFlag (l.drop k) = if 1 < x then (false, 4, 1) else (x == 1, 0, 1) := by
  rw [List.drop_eq_getElem_cons hl]
  have h2 : (l[k]?.getD 0) = l[k] := by rw [List.getElem?_eq_getElem hl]; rfl
  rw [h2] at hx
  subst hx
  rfl

def CountPost (p : Nat) (v : Value) (l : List UInt8) (k : Nat) (w : World) (most : Nat) (e : Ending) (w' : World) : Prop :=
  e = .returned (.tuple #[.int .i64 (rdCount most (l.drop k)).1, .int .i64 (rdCount most (l.drop k)).2.1]) ∧ Moved w p v l w' (k + (rdCount most (l.drop k)).2.2) 0

theorem count_end {p : Nat} {v : Value} {l : List UInt8} {k : Nat} {w w' : World} {most : Nat} {val : Int} {f m : Nat} {r : Nat × Nat × Nat} (hr : r = rdCount most (l.drop k)) (h1 : val = r.1) (h2 : f = r.2.1) (h3 : m = k + r.2.2)
    (hm : Moved w p v l w' m 0) : CountPost p v l k w most (.returned (.tuple #[.int .i64 val, .int .i64 f])) w' := by
  subst h1 h2 h3 hr
  exact ⟨rfl, hm⟩

end Go.Proofs.Ytkkgipieahhmbaa

/-
  A reader's calls, whole.
-/
namespace Go.Proofs.Ytkkgipieahhmbaa
open Go.RowKit

/-- Behind a reader's call: behind a fault nothing is read. -/
def Got (p : Nat) (v : Value) (l : List UInt8) (k f : Nat) (w : World) (none x : Value) (k1 f1 : Nat) (e : Ending) (w' : World) : Prop :=
  (f = 0 → Tried p v l k w none x k1 f1 e w') ∧ (f ≠ 0 → e = .returned none ∧ Moved w p v l w' k f)

theorem Moved.behind {a b c : World} {p : Nat} {v : Value} {l : List UInt8} {k f : Nat} (h : Turn (fun g => g = p) a b) (g : Moved b p v l c k f) : Moved a p v l c k f :=
  ⟨g.1, h.trans g.2 (fun _ _ t => t)⟩

theorem Tried.behind {a b : World} {p : Nat} {v : Value} {l : List UInt8} {k : Nat} {none x : Value} {k1 f : Nat} {e : Ending} {w' : World} (h : Turn (fun g => g = p) a b) (g : Tried p v l k b none x k1 f e w') : Tried p v l k a none x k1 f e w' :=
  ⟨fun n => ⟨(g.1 n).1, (g.1 n).2.behind h⟩, fun n => ⟨(g.2 n).1, (g.2 n).2.behind h⟩⟩

theorem Rdr.alloc {w : World} {p : Nat} {v : Value} {l : List UInt8} {k f : Nat} (h : Rdr w p v l k f) (o : Obj) : Rdr (w.alloc o) p v l k f :=
  h.turn ((Turn.refl (fun _ => False) w).alloc o) (fun f => f) (fun _ _ f => f)

def TextPost (p : Nat) (v : Value) (l : List UInt8) (k : Nat) (w : World) (most : Nat) (e : Ending) (w' : World) : Prop :=
  e = .returned (.tuple #[.string ⟨(rdText most (l.drop k)).1.toArray⟩, .int .i64 (rdText most (l.drop k)).2.1]) ∧ Moved w p v l w' (k + (rdText most (l.drop k)).2.2) 0

theorem text_end {p : Nat} {v : Value} {l : List UInt8} {k : Nat} {w w' : World} {most : Nat} {s : ByteArray} {f m : Nat} {r : List UInt8 × Nat × Nat} (hr : r = rdText most (l.drop k)) (h1 : s = ⟨r.1.toArray⟩) (h2 : f = r.2.1) (h3 : m = k + r.2.2)
    (hm : Moved w p v l w' m 0) : TextPost p v l k w most (.returned (.tuple #[.string s, .int .i64 f])) w' := by
  subst h1 h2 h3 hr
  exact ⟨rfl, hm⟩

theorem count_le (most : Nat) (l : List UInt8) : (rdCount most l).1 ≤ most := by
  unfold rdCount
  split
  · exact Nat.zero_le _
  · split <;> simp_all <;> omega

set_option maxRecDepth 100000 in
set_option maxHeartbeats 400000 in
theorem read_u64_bad (p : Nat) (v : Value) (l : List UInt8) (k f : Nat) (w : World) (g : Value) (hf : f ≠ 0) (h : Rdr w p v l k f) :
    Calls Try.prog 39 #[.pointer (some ⟨p, 0, none⟩), g] w fun e w' => e = .returned (.int .u64 0) ∧ Moved w p v l w' k f := by
  have HR := Lib.hid h; clear h
  have hf2 : (((f : Int) == 0) = false) := by rw [beq_eq_false_iff_ne]; omega
  have hf3 : (((f : Int) != 0) = true) := by rw [bne_iff_ne]; omega
  clear hf
  go_enter Try.func39, Try.ntmps39
  go_wp2_with (go_at_call 34; refine (fault_any p _ l k f w HR.out).mono ?_; rintro e w1 ⟨rfl, rfl⟩)
  go_ret
  exact ⟨rfl, HR.out, Turn.refl _ _⟩

theorem Tried.ret {p : Nat} {v : Value} {l : List UInt8} {k : Nat} {w : World} {none x : Value} {k1 f : Nat} {e : Ending} {w' : World} (h : Tried p v l k w none x k1 f e w') : ∃ y, e = .returned y := by
  by_cases hf : f = 0
  · exact ⟨_, (h.1 hf).1⟩
  · exact ⟨_, (h.2 hf).1⟩

theorem Got.ret {p : Nat} {v : Value} {l : List UInt8} {k f : Nat} {w : World} {none x : Value} {k1 f1 : Nat} {e : Ending} {w' : World} (h : Got p v l k f w none x k1 f1 e w') : ∃ y, e = .returned y := by
  by_cases hf : f = 0
  · exact (h.1 hf).ret
  · exact ⟨_, (h.2 hf).1⟩

set_option maxRecDepth 100000 in
set_option maxHeartbeats 400000 in
theorem rnum (p : Nat) (v : Value) (l : List UInt8) (k f : Nat) (w : World) (h : Rdr w p v l k f) :
    Calls Try.prog 33 #[.pointer (some ⟨p, 0, none⟩)] w (Got p v l k f w (.int .u64 0) (.int .u64 (rdNum (l.drop k)).1) (k + (rdNum (l.drop k)).2.2) (rdNum (l.drop k)).2.1) := by
  by_cases hf : f = 0
  · subst hf
    have HT := Lib.hid (read_u64 p v l k w h _ _ _ (number_any p v l k w h))
    clear h
    go_enter Try.func33, Try.ntmps33
    go_wp2_with (go_at_call 39; refine HT.out.mono ?_; intro e w1 ht; obtain ⟨y, rfl⟩ := ht.ret; have HH := Lib.hid ht; clear ht)
    go_ret
    exact ⟨fun _ => HH.out, fun n => absurd rfl n⟩
  · have HT := Lib.hid (read_u64_bad p v l k f w (.func (.func 40) #[] #[]) hf h)
    have HF := Lib.hid hf; clear hf
    clear h
    go_enter Try.func33, Try.ntmps33
    go_wp2_with (go_at_call 39; refine HT.out.mono ?_; rintro e w1 ⟨rfl, hm⟩; have HM := Lib.hid hm; clear hm)
    go_ret
    exact ⟨fun n => absurd n HF.out, fun _ => ⟨rfl, HM.out⟩⟩

theorem got_bad {p : Nat} {v : Value} {l : List UInt8} {k f : Nat} {w : World} {none x : Value} {k1 f1 : Nat} {e : Ending} {w' : World} (h : Got p v l k f w none x k1 f1 e w') (hn : ¬ (f = 0 ∧ f1 = 0)) :
    e = .returned none ∧ Moved w p v l w' k (if f = 0 then f1 else f) := by
  by_cases hf : f = 0
  · rw [if_pos hf]
    exact (h.1 hf).2 (fun h1 => hn ⟨hf, h1⟩)
  · rw [if_neg hf]
    exact h.2 hf

theorem got_ok {p : Nat} {v : Value} {l : List UInt8} {k f : Nat} {w : World} {none x : Value} {k1 f1 : Nat} {e : Ending} {w' : World} (h : Got p v l k f w none x k1 f1 e w') (hn : f = 0 ∧ f1 = 0) :
    e = .returned x ∧ Moved w p v l w' k1 0 := (h.1 hn.1).1 hn.2

/-- Int's value of a number that was tried. -/
def RInt (p : Nat) (v : Value) (l : List UInt8) (k f : Nat) (w : World) : Ending → World → Prop :=
  Got p v l k f w (.int .i64 0) (.int .i64 (zag (rdNum (l.drop k)).1)) (k + (rdNum (l.drop k)).2.2) (rdNum (l.drop k)).2.1

theorem rdF_lt : ∀ (g i acc : Nat) (l : List UInt8), g + i = 10 → acc < 128 ^ i → (rdF g i acc l).1 < 18446744073709551616
  | 0, i, acc, l, _, _ => by simp [rdF]
  | g + 1, i, acc, [], _, _ => by simp [rdF]
  | g + 1, i, acc, b :: l, h, ha => by
    unfold rdF
    have hb := UInt8.toNat_lt b
    have hp := pow_le i (by omega)
    split
    · refine rdF_lt g (i + 1) _ l (by omega) ?_
      have h1 : (b.toNat - 128) * 128 ^ i ≤ 127 * 128 ^ i := Nat.mul_le_mul_right _ (by omega)
      rw [Nat.pow_succ]
      omega
    · split
      · omega
      · rename_i h1 h2
        show acc + b.toNat * 128 ^ i < 18446744073709551616
        by_cases h9 : i = 9
        · have : b.toNat * 128 ^ i ≤ 1 * 128 ^ i := Nat.mul_le_mul_right _ (by omega)
          omega
        · have h3 : b.toNat * 128 ^ i ≤ 127 * 128 ^ i := Nat.mul_le_mul_right _ (by omega)
          have h4 := pow_le (i + 1) (by omega)
          rw [Nat.pow_succ] at h4
          omega

theorem rdNum_lt (l : List UInt8) : Hid ((rdNum l).1 < 18446744073709551616) := rdF_lt 10 0 0 l (by omega) (by simp)

theorem zag_zero : zag 0 = 0 := by decide

end Go.Proofs.Ytkkgipieahhmbaa

/-
  What is put is read as it was, and of fewer bytes it is not: on lists of bytes. A new reader.
-/
namespace Go.Proofs.Ytkkgipieahhmbaa
open Go.RowKit

theorem rdF_enc : ∀ (g n i acc : Nat) (rest : List UInt8), g + i = 9 → (i = 0 ∨ 0 < n) → n < 128 ^ (g + 1) → n * 128 ^ i < 18446744073709551616 →
    rdF (g + 1) i acc (encF g n ++ rest) = (acc + n * 128 ^ i, 0, i + (encF g n).length)
  | 0, n, i, acc, rest, hg, h0, hn, hb => by
    have e9 : i = 9 := by omega
    subst e9
    have h2 : n < 2 := by omega
    have h3 : (low n).toNat = n := low_toNat n (by omega)
    show (if 128 ≤ (low n).toNat then _ else if (0 < 9 ∧ (low n).toNat = 0) ∨ (9 = 9 ∧ 1 < (low n).toNat) then _ else _) = _
    rw [h3, if_neg (by omega), if_neg (by omega)]
    rfl
  | g + 1, n, i, acc, rest, hg, h0, hn, hb => by
    by_cases h : n < 128
    · have e : encF (g + 1) n = [low n] := by unfold encF; rw [if_pos h]
      have h3 : (low n).toNat = n := low_toNat n (by omega)
      rw [e]
      show (if 128 ≤ (low n).toNat then _ else if (0 < i ∧ (low n).toNat = 0) ∨ (i = 9 ∧ 1 < (low n).toNat) then _ else _) = _
      rw [h3, if_neg (by omega), if_neg (by omega)]
      rfl
    · have e : encF (g + 1) n = mid n :: encF g (n / 128) := by
        show (if n < 128 then [low n] else mid n :: encF g (n / 128)) = _
        rw [if_neg h]
      have h3 := mid_toNat n
      have hp : 0 < 128 ^ i := Nat.pow_pos (by omega)
      rw [e]
      show (if 128 ≤ (mid n).toNat then rdF (g + 1) (i + 1) (acc + ((mid n).toNat - 128) * 128 ^ i) (encF g (n / 128) ++ rest) else _) = _
      rw [if_pos (by omega), h3]
      have hd : n / 128 < 128 ^ (g + 1) := by
        rw [Nat.div_lt_iff_lt_mul (by omega), ← Nat.pow_succ]
        exact hn
      have hm : n / 128 * 128 ^ (i + 1) ≤ n * 128 ^ i := by
        rw [Nat.pow_succ, Nat.mul_comm (128 ^ i) 128, ← Nat.mul_assoc]
        exact Nat.mul_le_mul_right (128 ^ i) (Nat.div_mul_le_self n 128)
      have hlt : n / 128 * 128 ^ (i + 1) < 18446744073709551616 := Nat.lt_of_le_of_lt hm hb
      have hq : 0 < n / 128 := Nat.div_pos (by omega) (by omega)
      rw [rdF_enc g (n / 128) (i + 1) _ rest (by omega) (.inr hq) hd hlt]
      refine Prod.ext ?_ (Prod.ext rfl ?_)
      · show acc + (n % 128 + 128 - 128) * 128 ^ i + n / 128 * 128 ^ (i + 1) = acc + n * 128 ^ i
        have e1 : n % 128 + 128 - 128 = n % 128 := by omega
        have e2 : n * 128 ^ i = (n % 128) * 128 ^ i + n / 128 * 128 ^ (i + 1) := by
          rw [Nat.pow_succ, Nat.mul_comm (128 ^ i) 128, ← Nat.mul_assoc, ← Nat.add_mul, show n % 128 + n / 128 * 128 = n from by omega]
        rw [e1, e2]
        omega
      · show i + 1 + (encF g (n / 128)).length = i + (mid n :: encF g (n / 128)).length
        simp only [List.length_cons]
        omega

theorem rdNum_enc (n : Nat) (rest : List UInt8) (hn : Hid (n < 18446744073709551616)) : rdNum (enc n ++ rest) = (n, 0, (enc n).length) := by
  have h : n < 18446744073709551616 := hn
  have := rdF_enc 9 n 0 0 rest rfl (.inl rfl) (num_bound n hn) (by simpa using h)
  unfold rdNum enc
  rw [this]
  simp

theorem rdF_cut : ∀ (g n i acc m : Nat), g + i = 9 → m < (encF g n).length → rdF (g + 1) i acc ((encF g n).take m) = (0, 3, i + m)
  | g, n, i, acc, 0, _, _ => by
    rw [List.take_zero]
    rfl
  | 0, n, i, acc, m + 1, _, hm => absurd hm (by simp [encF])
  | g + 1, n, i, acc, m + 1, hg, hm => by
    by_cases h : n < 128
    · have e : encF (g + 1) n = [low n] := by unfold encF; rw [if_pos h]
      rw [e] at hm
      exact absurd hm (by simp)
    · have e : encF (g + 1) n = mid n :: encF g (n / 128) := by
        show (if n < 128 then [low n] else mid n :: encF g (n / 128)) = _
        rw [if_neg h]
      have h3 := mid_toNat n
      rw [e] at hm ⊢
      rw [List.take_succ_cons]
      show (if 128 ≤ (mid n).toNat then rdF (g + 1) (i + 1) (acc + ((mid n).toNat - 128) * 128 ^ i) ((encF g (n / 128)).take m) else _) = _
      rw [if_pos (by omega), rdF_cut g (n / 128) (i + 1) _ m (by omega) (by simpa using hm)]
      refine Prod.ext rfl (Prod.ext rfl ?_)
      show i + 1 + m = i + (m + 1)
      omega

theorem rdNum_cut (n m : Nat) (hm : m < (enc n).length) : rdNum ((enc n).take m) = (0, 3, m) := by
  have := rdF_cut 9 n 0 0 m rfl hm
  unfold rdNum enc
  rw [this]
  simp

theorem enc_pos (n : Nat) : 0 < (enc n).length := by
  unfold enc encF
  split <;> simp

set_option maxRecDepth 100000 in
set_option maxHeartbeats 400000 in
theorem new_reader (v : Value) (l : List UInt8) (w : World) (hv : Rd w v l) (hl : l.length ≤ 1000000) :
    Calls Try.prog 13 #[v] w fun e w' => ∃ p u, e = .returned (.pointer (some ⟨p, 0, none⟩)) ∧ Rdr w' p u l 0 0 ∧ Turn (fun _ => False) w w' ∧ w.heap.size ≤ p ∧ ∀ k, u.ownBlock = some k → w.heap.size ≤ k := by
  have HV := Lib.hid hv; clear hv
  go_enter Try.func13, Try.ntmps13
  go_wp2_with (go_at_call 32; refine (clone_any v l w HV.out hl).mono ?_; rintro e w1 ⟨u, rfl, hb, ht, hk⟩; obtain ⟨A, c, hu⟩ := hb.shape; subst hu; have HB := Lib.hid hb; clear hb; have HT := Lib.hid ht; clear ht; have HK := Lib.hid hk; clear hk)
  go_ret
  refine ⟨w1.heap.size, .slice A l.length c, rfl, ⟨Box.new _ _ _, HB.out.alloc _, Nat.zero_le _, hl⟩, HT.out.alloc _, HT.out.size, HK.out⟩

end Go.Proofs.Ytkkgipieahhmbaa

/-
  The chapter's example: what must come at any rate.
-/
namespace Go.Proofs.Ytkkgipieahhmbaa
open Go.RowKit

def demo1 : List UInt8 := [172, 2, 1, 2, 97, 98]
theorem demo1_eq : ([] ++ enc 300) ++ enc (zig (-1)) ++ (enc (ByteArray.mk #[97, 98]).size ++ (ByteArray.mk #[97, 98]).data.toList) = demo1 := by decide +kernel
theorem demo1_num : rdNum (demo1.drop 0) = (300, 0, 2) := by decide +kernel

theorem By.at {w : World} {v : Value} {l : List UInt8} (h : By w v l) (hl : 0 < l.length) : ∃ g c, v = .slice (some ⟨g, 0, none⟩) l.length c ∧ l.length ≤ c ∧ ∀ j b, l[j]? = some b → w.cell? ⟨g, j, none⟩ = some (.int .u8 (b.toNat : Int)) := by
  rcases h.form with ⟨_, rfl⟩ | ⟨g, cap, cur, rfl, hb, h1, _⟩
  · exact absurd hl (by simp)
  · refine ⟨g, cap, rfl, h1, fun j b hj => ?_⟩
    have := World.ownsRow.cells h (g := g) rfl j (bv b) (by simp [hj])
    have e : (⟨g, 0, none⟩ : Addr).add j = ⟨g, j, none⟩ := by unfold Addr.add; split <;> simp_all
    rw [e] at this
    exact this

theorem Wr.new (w : World) : Wr (w.alloc (.cells #[.slice none 0 0] 49)) w.heap.size (.slice none 0 0) [] := ⟨Box.new _ _ _, By.nil _⟩

theorem hid_int (n : Int) (h : -1000000 ≤ n) (h2 : n ≤ 1000000) : Hid (-9223372036854775808 ≤ n) ∧ Hid (n ≤ 9223372036854775807) := by
  constructor
  · show -9223372036854775808 ≤ n
    omega
  · show n ≤ 9223372036854775807
    omega

theorem Wr.turn {w w' : World} {p : Nat} {v : Value} {l : List UInt8} {S : Nat → Prop} (h : Wr w p v l) (ht : Turn S w w') (h1 : ¬ S p) (h2 : ∀ g, v.ownBlock = some g → ¬ S g) : Wr w' p v l :=
  ⟨h.1.turn ht h1, h.2.turn ht h2⟩

/-- A writer of the call's own, made since w. -/
def Own (w w1 : World) (p : Nat) (v : Value) (l : List UInt8) : Prop := Wr w1 p v l ∧ Turn (fun _ => False) w w1 ∧ w.heap.size ≤ p ∧ ∀ k, v.ownBlock = some k → w.heap.size ≤ k

theorem Own.put {w w1 w2 : World} {p : Nat} {v u : Value} {l m : List UInt8} (h : Own w w1 p v l) (g : Put w1 p v w2 u m) : Own w w2 p u m := by
  obtain ⟨_, ht, hp, hv⟩ := h
  obtain ⟨hw, gt, gm⟩ := g
  refine ⟨hw, ht.fresh gt ?_, hp, ?_⟩
  · rintro k (rfl | hk)
    · exact hp
    · exact hv k hk
  · intro k hk
    rcases gm with e | e
    · exact hv k (e ▸ hk)
    · have := ht.size
      have := e k hk
      omega

theorem Own.later {w w1 w2 : World} {p : Nat} {v : Value} {l : List UInt8} (h : Own w w1 p v l) (g : Turn (fun _ => False) w1 w2) : Own w w2 p v l :=
  ⟨h.1.turn g (fun f => f) (fun _ _ f => f), h.2.1.fresh g (fun _ f => f.elim), h.2.2⟩

theorem Own.new (w : World) : Own w (w.alloc (.cells #[.slice none 0 0] 49)) w.heap.size (.slice none 0 0) [] :=
  ⟨Wr.new w, (Turn.refl _ w).alloc _, Nat.le_refl _, fun k h => by cases h⟩

end Go.Proofs.Ytkkgipieahhmbaa
