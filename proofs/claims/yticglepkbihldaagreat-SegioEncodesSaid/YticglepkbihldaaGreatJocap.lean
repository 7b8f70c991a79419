/-
  Texts laid one behind the other: Aq Tg Ar Zo So As.
-/
import Derived.Test.YticglepkbihldaaGreatJocao
import Derived.Test.YticglepkbihldaaGreatJocad
import Derived.Test.YticglepkbihldaaGreatJocan
import Derived.Test.YticglepkbihldaaGreatJocaf
import Derived.Laws.IdiomArrays
import Derived.Test.YticglepkbihldaaGreatJocag
import Derived.Lib.SmallJoins

/-
  Stage 12: Decode.
-/
namespace Go.Proofs.YticglepkbihldaaGreat
open Go.RowKit

set_option maxRecDepth 100000

/-- What Decode answers. -/
def decodeL (b : List UInt8) (n : Int) : Int × List R11 := if okDims n = false then (1, []) else if (takes b).2.2 ≠ 0 then (((takes b).2.2 : Int), []) else if (takes b).2.1 < b.length then (4, []) else decF (takes b).1 n.toNat
theorem decodeL_dims {b : List UInt8} {n : Int} (h : okDims n = false) : decodeL b n = (1, []) := if_pos h
theorem decodeL_take {b : List UInt8} {n : Int} (h : okDims n = true) (h1 : (takes b).2.2 ≠ 0) : decodeL b n = (((takes b).2.2 : Int), []) := by
  unfold decodeL
  rw [if_neg (by rw [h]; simp), if_pos h1]
theorem decodeL_left {b : List UInt8} {n : Int} (h : okDims n = true) (h1 : (takes b).2.2 = 0) (h2 : (takes b).2.1 < b.length) : decodeL b n = (4, []) := by
  unfold decodeL
  rw [if_neg (by rw [h]; simp), if_neg (by omega), if_pos h2]
theorem decodeL_in {b : List UInt8} {n : Int} (h : okDims n = true) (h1 : (takes b).2.2 = 0) (h2 : ¬ (takes b).2.1 < b.length) : decodeL b n = decF (takes b).1 n.toNat := by
  unfold decodeL
  rw [if_neg (by rw [h]; simp), if_neg (by omega), if_neg h2]
/-- What is encoded is decoded as it was. -/
theorem decodeL_enc {l : List R11} {n : Int} (hf : fitL l n = 0) (hr : rightR l = true) (ho : ∀ r ∈ l, okC r.c) (hl : l.length ≤ 20000) (hp : (payB l n.toNat).length ≤ 4194304) : decodeL (encL l n) n = (0, l) := by
  have hd := (fitL_ok.1 hf).1
  have hw := takes_whole _ hp
  rw [encL_ok hf, decodeL_in hd (by rw [hw]) (by rw [hw]; exact Nat.lt_irrefl _), hw]
  obtain ⟨N, rfl, h1, h4⟩ := okDims_nat hd
  rw [Int.toNat_natCast]
  exact decF_back h1 h4 hr ho hf hl
/-- Of fewer bytes nothing comes. -/
theorem decodeL_cut {l : List R11} {n : Int} (hf : fitL l n = 0) (hp : (payB l n.toNat).length ≤ 4194304) {m : Nat} (hm : m < (encL l n).length) : decodeL ((encL l n).take m) n = (3, []) := by
  have hd := (fitL_ok.1 hf).1
  rw [encL_ok hf] at hm ⊢
  have h3 := takes_short _ m hp hm
  rw [decodeL_take hd (by rw [h3]; decide), h3]
  rfl
/-- What is decoded has just those bytes. -/
theorem decodeL_there {b : List UInt8} {n : Int} {l : List R11} (h : decodeL b n = (0, l)) : encL l n = b ∧ fitL l n = 0 ∧ (payB l n.toNat).length ≤ b.length := by
  cases hd : okDims n with
  | false =>
    rw [decodeL_dims hd] at h
    cases congrArg Prod.fst h
  | true =>
    by_cases h1 : (takes b).2.2 = 0
    · by_cases h2 : (takes b).2.1 < b.length
      · rw [decodeL_left hd h1 h2] at h
        cases congrArg Prod.fst h
      · rw [decodeL_in hd h1 h2] at h
        obtain ⟨N, rfl, n1, n4⟩ := okDims_nat hd
        rw [Int.toNat_natCast] at h ⊢
        obtain ⟨e1, e2, e3, e4⟩ := decF_there n4 h
        refine ⟨?_, e3, ?_⟩
        · rw [encL_ok e3, Int.toNat_natCast, e1]
          exact takes_exact h1 h2
        · rw [e1]
          have := takes_sz b h1
          have h5 : (takes b).2.1 = (enc (takes b).1.length).length + (takes b).1.length + 4 := this.1
          omega
    · rw [decodeL_take hd h1] at h
      have := congrArg Prod.fst h
      simp only at this
      omega
theorem decF_none {p : List UInt8} {N : Nat} (h : (decF p N).1 ≠ 0) : (decF p N).2 = [] := by
  unfold decF at *
  split
  · rfl
  · rename_i h1
    rw [if_neg h1] at h
    split
    · rfl
    · rename_i h2
      rw [if_neg h2] at h
      split
      · rfl
      · rename_i h3
        rw [if_neg h3] at h
        split
        · rfl
        · rename_i h4
          rw [if_neg h4] at h
          exact absurd rfl h
theorem decodeL_none {b : List UInt8} {n : Int} (h : (decodeL b n).1 ≠ 0) : (decodeL b n).2 = [] := by
  unfold decodeL at *
  split
  · rfl
  · rename_i h1
    rw [if_neg h1] at h
    split
    · rfl
    · rename_i h2
      rw [if_neg h2] at h
      split
      · rfl
      · rename_i h3
        rw [if_neg h3] at h
        exact decF_none h

set_option maxHeartbeats 8000000 in
theorem decodes_any12 (v : Value) (b : List UInt8) (n : Int) (w : World) (hv : Rd w v b) (hl : b.length ≤ 20000) :
    Calls Tryz.prog 17 #[v, .int .i64 n] w fun e w' => DecA12 w (decodeL b n) e w' := by
  have HDC := Lib.hid (dims_chk12 n w)
  have HV := Lib.hid hv
  obtain ⟨A, c, rfl⟩ := hv.shape
  clear hv
  cases hd : okDims n with
  | false =>
    rw [decodeL_dims hd]
    have hdf : dimsF n = 1 := by unfold dimsF; rw [hd]; rfl
    rw [hdf] at HDC
    clear hd hdf
    go_enter Tryz.func17, Tryz.ntmps17
    go_wp2_with fail
    refine HDC.out.mono ?_
    rintro e w1 ⟨rfl, t1⟩
    have HT1 := Lib.hid t1
    clear t1 HDC
    go_wp2
    go_ret2
    exact ⟨_, rfl, SV11.nil _, fun _ => rfl, HT1.out⟩
  | true =>
    have HLD := Lib.hid hd
    obtain ⟨N, rfl, hN1, hN4⟩ := okDims_nat hd
    have hdf : dimsF (N : Int) = 0 := by unfold dimsF; rw [hd]; rfl
    rw [hdf] at HDC
    have HTK := Lib.hid (fun W (ht : Turn (fun _ => False) w W) => frame_take _ b W (HV.out.later ht) (by omega))
    unfold TakePost at HTK
    by_cases h1 : (takes b).2.2 = 0
    · by_cases h2 : (takes b).2.1 < b.length
      · rw [decodeL_left hd h1 h2]
        rw [h1] at HTK
        have hlt : ((takes b).2.1 : Int) < b.length := by omega
        generalize (takes b).2.1 = k at *
        clear hd hdf h1 h2
        go_enter Tryz.func17, Tryz.ntmps17
        go_wp2_with fail
        refine HDC.out.mono ?_
        rintro e w1 ⟨rfl, t1⟩
        have HT1 := Lib.hid t1
        clear t1 HDC
        go_wp2_with fail
        refine (HTK.out w1 HT1.out).mono ?_
        rintro e w2 ⟨v2, rfl, hr2, t2⟩
        obtain ⟨A2, c2, rfl⟩ := hr2.shape
        have HT2 := Lib.hid t2
        clear hr2 t2 HTK
        go_wp2
        go_ret2
        exact ⟨_, rfl, SV11.nil _, fun _ => rfl, HT1.out.trans HT2.out (fun _ _ f => f)⟩
      · rw [decodeL_in hd h1 h2, Int.toNat_natCast]
        rw [h1] at HTK
        have hlt : ¬ ((takes b).2.1 : Int) < b.length := by omega
        have hsz := takes_sz b h1
        have HPL : Hid ((takes b).1.length ≤ 20000) := by
          show _ ≤ _
          have h5 : (takes b).2.1 = (enc (takes b).1.length).length + (takes b).1.length + 4 := hsz.1
          omega
        generalize (takes b).2.1 = k at *
        generalize (takes b).1 = P at *
        clear hd hdf h1 h2 hsz
        go_enter Tryz.func17, Tryz.ntmps17
        go_wp2_with fail
        refine HDC.out.mono ?_
        rintro e w1 ⟨rfl, t1⟩
        have HT1 := Lib.hid t1
        clear t1 HDC
        go_wp2_with fail
        refine (HTK.out w1 HT1.out).mono ?_
        rintro e w2 ⟨v2, rfl, hr2, t2⟩
        obtain ⟨A2, c2, rfl⟩ := hr2.shape
        have HT2 := Lib.hid t2
        have HR2 := Lib.hid hr2
        clear hr2 t2 HTK
        go_wp2_with fail
        refine (decode_any12 _ P N hN1 hN4 w2 HR2.out HPL.out).mono ?_
        rintro e w3 ⟨s, rfl, hs, hn, t3⟩
        obtain ⟨ps, rfl⟩ := hs.ptr
        have HS := Lib.hid hs; have HN := Lib.hid hn; have HT3 := Lib.hid t3
        clear hs hn t3
        go_wp2
        go_ret2
        exact ⟨_, rfl, HS.out, HN.out, (HT1.out.trans HT2.out (fun _ _ f => f)).trans HT3.out (fun _ _ f => f)⟩
    · rw [decodeL_take hd h1]
      have hx2 : ((((takes b).2.2 : Int) != 0) = true) := by rw [bne_iff_ne]; omega
      have hx1 : ((((takes b).2.2 : Int) == 0) = false) := by rw [beq_eq_false_iff_ne]; omega
      generalize (takes b).2.2 = f at *
      clear hd hdf h1
      go_enter Tryz.func17, Tryz.ntmps17
      go_wp2_with fail
      refine HDC.out.mono ?_
      rintro e w1 ⟨rfl, t1⟩
      have HT1 := Lib.hid t1
      clear t1 HDC
      go_wp2_with fail
      refine (HTK.out w1 HT1.out).mono ?_
      rintro e w2 ⟨v2, rfl, hr2, t2⟩
      obtain ⟨A2, c2, rfl⟩ := hr2.shape
      have HT2 := Lib.hid t2
      clear hr2 t2 HTK
      go_wp2
      go_ret2
      exact ⟨_, rfl, SV11.nil _, fun _ => rfl, HT1.out.trans HT2.out (fun _ _ f => f)⟩

end Go.Proofs.YticglepkbihldaaGreat

/-
  Stage 11: the program's Total, and Same by slices.Equal.
-/
namespace Go.Proofs.YticglepkbihldaaGreat
open Go.RowKit

set_option maxRecDepth 100000

theorem run_neq_row11 (f g : R11) (W : World) (b : Bool) (h : decide (f = g) = b) : (binOp .neq 52 (rv11 f) (rv11 g)).run Tryz.prog W = .ok (.bool (!b)) W := by rw [run_neq_row, h]

set_option maxHeartbeats 4000000 in
theorem equal11 (a b : Value) (K L : List R11) (w : World) (ha : RdE ER w a K) (hb : RdE ER w b L) (hl : L.length ≤ 20000) :
    Calls Tryz.prog 38 #[a, b] w fun e w' => e = .returned (.bool (decide (K = L))) ∧ Turn (fun _ => False) w w' := by
  have HA := Lib.hid ha; have HB := Lib.hid hb
  obtain ⟨A, c, rfl⟩ := ha.shape
  obtain ⟨B, d, rfl⟩ := hb.shape
  clear ha hb
  by_cases hne : K.length = L.length
  · have HL := Lib.hid hne
    have HNE : Hid ((K.length : Int) = (L.length : Int)) := by show (K.length : Int) = _; omega
    rw [hne]
    have HA2 : Hid (RdE ER w (.slice A L.length c) K) := by have h := HA.out; rw [hne] at h; exact h
    clear HA hne HNE
    go_enter Tryz.func38, Tryz.ntmps38
    go_wp2_with fail
    go_loopw [13] (fun x13 wr => ∃ i : Nat, x13 = .int .i64 (i : Int) ∧ i ≤ L.length ∧ K.take i = L.take i ∧ Turn (fun _ => False) w wr) (fun x13 _ => L.length - (intOf x13).toNat)
    case atStart => exact ⟨0, rfl, Nat.zero_le _, rfl, Turn.refl _ _⟩
    case round =>
      obtain ⟨i, rfl, hi, he, ht⟩ := hrel
      have HE := Lib.hid he; have HT := Lib.hid ht
      clear he ht
      by_cases hlt : i < L.length
      · obtain ⟨y, hy⟩ : ∃ y, L[i]? = some y := ⟨_, List.getElem?_eq_getElem hlt⟩
        obtain ⟨x, hx⟩ : ∃ x, K[i]? = some x := ⟨_, List.getElem?_eq_getElem (by rw [HL.out]; exact hlt)⟩
        obtain ⟨ad, rfl, hc⟩ := row_at11 HA2.out hx
        obtain ⟨bd, rfl, hd⟩ := row_at11 HB.out hy
        obtain ⟨c0, c1, c2, c3, c4, c5, c6, c7, c8⟩ := hc wr HT.out
        obtain ⟨d0, d1, d2, d3, d4, d5, d6, d7, d8⟩ := hd wr HT.out
        have hil : (i : Int) < L.length := by omega
        have hgd := fun X Y => guard_row11 .neq X Y x y
        by_cases hxy : x = y
        · have hne := fun W => run_neq_row11 x y W true (decide_eq_true hxy)
          simp only [Bool.not_true] at hne
          have HNX : Hid (K.take (i + 1) = L.take (i + 1)) := by
            obtain ⟨h1, e1⟩ := List.getElem?_eq_some_iff.1 hx
            obtain ⟨h2, e2⟩ := List.getElem?_eq_some_iff.1 hy
            show _ = _
            rw [List.take_succ_eq_append_getElem h1, List.take_succ_eq_append_getElem h2, HE.out, e1, e2, hxy]
          clear hc hd hx hy hxy
          go_wp2_with fail
          go_quiet (fail)
          go_wp2
          go_roundw
          case rel => exact ⟨i + 1, by go_num, hlt, HNX.out, HT.out.drewN nq⟩
          case measure => simp [intOf]; omega
        · have hne := fun W => run_neq_row11 x y W false (decide_eq_false hxy)
          simp only [Bool.not_false] at hne
          have HNO : Hid (decide (K = L) = false) := decide_eq_false fun e => by
            rw [e, hy] at hx
            cases hx
            exact hxy rfl
          clear hc hd hx hy hxy
          go_wp2_with fail
          go_quiet (fail)
          go_wp2
          go_ret
          rw [HNO.out]
          exact ⟨rfl, HT.out.drewN nq⟩
      · obtain rfl : i = L.length := by omega
        have HYE : Hid (decide (K = L) = true) := decide_eq_true (by
          have h := HE.out
          rw [List.take_length, List.take_of_length_le (by rw [HL.out]; exact Nat.le_refl _)] at h
          exact h)
        go_wp2
        go_ret
        rw [HYE.out]
        exact ⟨rfl, HT.out⟩
  · have HNO : Hid (decide (K = L) = false) := decide_eq_false fun e => hne (by rw [e])
    have hn : ¬ ((K.length : Int) = (L.length : Int)) := by omega
    have hnb : ((K.length : Int) == (L.length : Int)) = false := by rw [beq_eq_false_iff_ne]; exact hn
    have hnb2 : ((K.length : Int) != (L.length : Int)) = true := by rw [bne_iff_ne]; exact hn
    clear hne hn
    go_enter Tryz.func38, Tryz.ntmps38
    go_wp2_with fail
    go_ret
    rw [HNO.out]
    exact ⟨rfl, Turn.refl _ _⟩

set_option maxHeartbeats 1000000 in
theorem same_any11 (s t : Value) (K L : List R11) (w : World) (h : SV11 w s K) (g : SV11 w t L) : Calls Tryz.prog 18 #[s, t] w fun e w' => e = .returned (.bool (decide (K = L))) ∧ Turn (fun _ => False) w w' := by
  have HA := Lib.hid (all_any11 s K w h)
  have HB := Lib.hid (all_any11 t L w g)
  have hl := g.right.2.2
  obtain ⟨p, rfl⟩ := h.ptr
  obtain ⟨q, rfl⟩ := g.ptr
  clear h g
  go_enter Tryz.func18, Tryz.ntmps18
  go_wp2_with fail
  refine HA.out.mono ?_
  rintro e w1 ⟨s1, rfl, h1, hw⟩
  replace hw := hw.symm
  subst hw
  obtain ⟨A, c, rfl⟩ := h1.shape
  have H1 := Lib.hid h1
  clear h1
  go_wp2_with fail
  refine HB.out.mono ?_
  rintro e w1 ⟨s2, rfl, h2, hw⟩
  replace hw := hw.symm
  subst hw
  obtain ⟨B, d, rfl⟩ := h2.shape
  have H2 := Lib.hid h2
  clear h2
  have HE := Lib.hid (equal11 _ _ K L w H1.out H2.out hl)
  go_wp2_with fail
  refine HE.out.mono ?_
  rintro e w1 ⟨rfl, t1⟩
  have HT := Lib.hid t1
  clear t1
  go_wp2
  go_ret
  exact ⟨rfl, HT.out⟩

end Go.Proofs.YticglepkbihldaaGreat

/-
  Stage 12: the statements' light and made; the chapter's example.
-/
namespace Go.Proofs.YticglepkbihldaaGreat
open Go.RowKit

set_option maxRecDepth 100000

/-- Rows that are few, a segment's, and short. -/
def short12 (r : R11) : Bool := decide (r.k.a.length ≤ 40) && decide (r.k.b.length ≤ 40) && decide (r.k.c.length ≤ 40) && decide (r.k.d.length ≤ 40)
def light12 (l : List R11) : Bool := decide (l.length ≤ 60) && rightR l && l.all short12
theorem short12_all {r : R11} (h : ∀ d, d < 4 → (r.k.dim d).length ≤ 40) : short12 r = true := by
  have e0 := h 0 (by omega)
  have e1 := h 1 (by omega)
  have e2 := h 2 (by omega)
  have e3 := h 3 (by omega)
  simp only [K9.dim] at e0 e1 e2 e3
  simp [short12, e0, e1, e2, e3]
theorem short12_not {r : R11} {d : Nat} (hd : d < 4) (h : ¬ (r.k.dim d).length ≤ 40) : short12 r = false := by
  match d, hd with
  | 0, _ => simp only [K9.dim] at h; simp [short12, h]
  | 1, _ => simp only [K9.dim] at h; simp [short12, h]
  | 2, _ => simp only [K9.dim] at h; simp [short12, h]
  | 3, _ => simp only [K9.dim] at h; simp [short12, h]
theorem light12_spec {l : List R11} (h : light12 l = true) : l.length ≤ 60 ∧ rightR l = true := by
  unfold light12 at h
  rw [Bool.and_eq_true, Bool.and_eq_true, decide_eq_true_iff] at h
  exact h.1
theorem light12_not {l : List R11} {i : Nat} {r : R11} (hi : l[i]? = some r) (h : short12 r = false) : light12 l = false := by
  unfold light12
  rw [Bool.and_eq_false_iff]
  right
  rw [List.all_eq_false]
  exact ⟨r, List.mem_of_getElem? hi, by rw [h]; simp⟩
set_option maxHeartbeats 8000000 in
theorem light_any12 (v : Value) (l : List R11) (w : World) (hv : RdE ER w v l) (hl : l.length ≤ maxLen) : Calls Tryz.prog 6 #[v] w fun e w' => e = .returned (.bool (light12 l)) ∧ Turn (fun _ => False) w w' := by
  have HV := Lib.hid hv
  obtain ⟨A, c, rfl⟩ := hv.shape
  clear hv
  unfold maxLen at hl
  by_cases h60 : l.length ≤ 60
  · have hg : ¬ (60 : Int) < (l.length : Int) := by omega
    have HR := Lib.hid (ref_right11 _ l w HV.out (by omega))
    cases hr : rightR l with
    | false =>
      rw [hr] at HR
      have HZ : Hid (light12 l = false) := by show _ = _; unfold light12; rw [hr]; simp
      clear hr
      go_enter Tryz.func6, Tryz.ntmps6
      go_wp2_with fail
      refine HR.out.mono ?_
      rintro e w1 ⟨rfl, t1⟩
      have HT1 := Lib.hid t1
      clear t1 HR
      go_wp2
      go_ret
      rw [HZ.out]
      exact ⟨rfl, HT1.out⟩
    | true =>
      rw [hr] at HR
      have HRR := Lib.hid hr
      clear hr
      go_enter Tryz.func6, Tryz.ntmps6
      go_wp2_with fail
      refine HR.out.mono ?_
      rintro e w1 ⟨rfl, t1⟩
      have HT1 := Lib.hid t1
      clear t1 HR
      go_wp2_with fail
      go_loopw [3] (fun x3 wr => wr = w1 ∧ ∃ i : Nat, x3 = .int .i64 (i : Int) ∧ i ≤ l.length ∧ ∀ j r, j < i → l[j]? = some r → short12 r = true) (fun x3 _ => l.length - (intOf x3).toNat)
      case atStart => exact ⟨rfl, 0, rfl, Nat.zero_le _, fun j r hj => absurd hj (Nat.not_lt_zero j)⟩
      case round =>
        obtain ⟨rfl, i, rfl, hi, he⟩ := hrel
        have HE := Lib.hid he
        clear he
        by_cases hlt : i < l.length
        · obtain ⟨x, hx⟩ : ∃ x, l[i]? = some x := ⟨_, List.getElem?_eq_getElem hlt⟩
          have HX := Lib.hid hx
          obtain ⟨ad, rfl, hc⟩ := row_at11 (HV.out.later HT1.out) hx
          have hil : (i : Int) < l.length := by omega
          have HDM : Hid (∀ d, d < 4 → wr.cell? ⟨(ad.add (i * 9)).block, (ad.add (i * 9)).off + 1 + d, none⟩ = some (sv9 (x.k.dim d))) := fun d hd => by
            obtain ⟨a0, a1, a2, a3, a4, -⟩ := hc wr (Turn.refl _ _)
            match d, hd with
            | 0, _ => exact a1
            | 1, _ => exact a2
            | 2, _ => exact a3
            | 3, _ => exact a4
          clear hc hx
          go_wp2_with fail
          go_loopw [4] (fun x4 wz => wz = wr ∧ ∃ d : Nat, x4 = .int .i64 (d : Int) ∧ d ≤ 4 ∧ ∀ j, j < d → (x.k.dim j).length ≤ 40) (fun x4 _ => 4 - (intOf x4).toNat)
          case atStart => exact ⟨rfl, 0, rfl, Nat.zero_le _, fun j hj => absurd hj (Nat.not_lt_zero j)⟩
          case round =>
            obtain ⟨hwz, d, rfl, hd, hs⟩ := hrel
            subst hwz
            have HSH := Lib.hid hs
            clear hs
            by_cases hdl : d < 4
            · have hd4 : (d : Int) < 4 := by omega
              have e1 := HDM.out d hdl
              unfold sv9 at e1
              generalize hT : x.k.dim d = T at *
              by_cases hlen : T.length ≤ 40
              · have hl2 : ¬ ((40 : Int) < T.length) := by omega
                have HSN : Hid (∀ j, j < d + 1 → (x.k.dim j).length ≤ 40) := fun j hj => by
                  by_cases e : j = d
                  · rw [e, hT]; exact hlen
                  · exact HSH.out j (by omega)
                go_wp2
                go_roundw
                case rel => exact ⟨trivial, d + 1, by go_num, hdl, HSN.out⟩
                case measure => simp [intOf]; omega
              · have hl2 : (40 : Int) < T.length := by omega
                have HZ := Lib.hid (light12_not HX.out (short12_not hdl (by rw [hT]; exact hlen)))
                go_wp2
                go_ret
                rw [HZ.out]
                exact ⟨rfl, HT1.out⟩
            · obtain rfl : d = 4 := by omega
              have HSN := Lib.hid (short12_all HSH.out)
              have HEN : Hid (∀ j r, j < i + 1 → l[j]? = some r → short12 r = true) := fun j r hj hr => by
                by_cases e : j = i
                · subst e
                  have := hr.symm.trans HX.out
                  injection this with e2
                  rw [e2]
                  exact HSN.out
                · exact HE.out j r (by omega) hr
              go_wp2
              go_roundw
              case rel => exact ⟨trivial, i + 1, by go_num, hlt, HEN.out⟩
              case measure => simp [intOf]; omega
        · obtain rfl : i = l.length := by omega
          have HZ : Hid (light12 l = true) := by
            show _ = _
            unfold light12
            rw [Bool.and_eq_true, Bool.and_eq_true, decide_eq_true_iff, List.all_eq_true]
            refine ⟨⟨h60, HRR.out⟩, fun r hr => ?_⟩
            obtain ⟨j, hj, e⟩ := List.getElem_of_mem hr
            exact HE.out j r hj (by rw [List.getElem?_eq_getElem hj, e])
          go_wp2
          go_ret
          rw [HZ.out]
          exact ⟨rfl, HT1.out⟩
  · have hg : (60 : Int) < (l.length : Int) := by omega
    have HZ : Hid (light12 l = false) := by show _ = _; unfold light12; rw [decide_eq_false h60]; rfl
    go_enter Tryz.func6, Tryz.ntmps6
    go_wp2
    go_ret
    rw [HZ.out]
    exact ⟨rfl, Turn.refl _ _⟩

set_option maxHeartbeats 4000000 in
theorem made_any12 (v : Value) (l : List R11) (w : World) (hv : RdE ER w v l) (hok : ∀ r ∈ l, okC r.c) (hl : l.length ≤ 20000) (h : rightR l = true) : Calls Tryz.prog 8 #[v] w fun e w' => Part11 w l e w' := by
  have HR := Lib.hid (rows_any11 v l w hv hok hl)
  obtain ⟨A, c, rfl⟩ := hv.shape
  clear hv hok
  unfold RowsA11 at HR
  rw [h] at HR
  clear h
  go_enter Tryz.func8, Tryz.ntmps8
  go_wp2_with fail
  refine HR.out.mono ?_
  rintro e w1 ⟨s, rfl, hs, -, t1⟩
  simp only [if_true] at hs
  obtain ⟨p, rfl⟩ := hs.ptr
  have HS := Lib.hid hs; have HT := Lib.hid t1
  clear hs t1 HR
  go_wp2
  go_ret
  exact ⟨_, rfl, HS.out, HT.out⟩

theorem ex_pay12 : payB [] 1 = [1, 0, 0] := by decide +kernel
theorem ex_fit12 : fitL [] 1 = 0 := by decide
set_option maxHeartbeats 4000000 in
theorem alive_any12 (w : World) : Calls Tryz.prog 7 #[] w fun e w' => e = .returned (.bool true) ∧ Turn (fun _ => False) w w' := by
  obtain ⟨b, hb⟩ : ∃ b : List UInt8, b = encL [] 1 := ⟨_, rfl⟩
  have hbe : b = [3, 1, 0, 0] ++ tl (more 0 [1, 0, 0]) := by
    rw [hb, encL_ok ex_fit12, show (1 : Int).toNat = 1 from rfl, ex_pay12]
    unfold fr
    have : enc ([1, 0, 0] : List UInt8).length = [3] := by decide +kernel
    rw [this]
    rfl
  have HL : Hid (b.length = 8) := by show _ = _; rw [hbe, List.length_append, tl_len]; rfl
  have H0 : Hid (b[0]? = some 3) := by show _ = _; rw [hbe]; rfl
  have H1 : Hid (b[1]? = some 1) := by show _ = _; rw [hbe]; rfl
  have H2 : Hid (b[2]? = some 0) := by show _ = _; rw [hbe]; rfl
  have H3 : Hid (b[3]? = some 0) := by show _ = _; rw [hbe]; rfl
  have HDE : Hid (decodeL b 1 = (0, [])) := by
    show _ = _
    rw [hb]
    exact decodeL_enc ex_fit12 rfl (fun r hr => by cases hr) (Nat.zero_le _) (by rw [show (1 : Int).toNat = 1 from rfl, ex_pay12]; decide)
  have HR := Lib.hid (rows_any11 (.slice none 0 0) [] w (RdE.nil _) (fun r hr => by cases hr) (Nat.zero_le _))
  unfold RowsA11 at HR
  have HBE := Lib.hid hb
  clear hb hbe
  go_enter Tryz.func7, Tryz.ntmps7
  go_wp2_with fail
  refine HR.out.mono ?_
  rintro e w1 ⟨s, rfl, hs, -, t1⟩
  replace hs : SV11 w1 s [] := hs
  obtain ⟨p, rfl⟩ := hs.ptr
  have HS := Lib.hid hs; have HT1 := Lib.hid t1
  clear hs t1 HR
  go_wp2_with fail
  refine (encode_any12 (.pointer p) [] 1 w1 HS.out (fun _ => by rw [show (1 : Int).toNat = 1 from rfl, ex_pay12]; decide)).mono ?_
  rintro e w2 ⟨v, rfl, hm⟩
  rw [ex_fit12]
  rw [← HBE.out] at hm
  obtain ⟨g, c, hv, hcap, hcell⟩ := hm.1.at (by rw [HL.out]; decide)
  rw [HL.out] at hv hcap
  subst hv
  have HM := Lib.hid hm; have HC := Lib.hid hcell
  clear hm hcell
  go_wp2_with fail
  refine (decodes_any12 _ b 1 w2 HM.out.1.rd (by rw [HL.out]; decide)).mono ?_
  rintro e w3 ⟨t, rfl, ht, -, t3⟩
  rw [HDE.out] at ht ⊢
  dsimp only at ht ⊢
  have HLN := Lib.hid (len_same11 t [] w3 ht)
  obtain ⟨q, rfl⟩ := ht.ptr
  have c0 : w3.cell? ⟨g, 0, none⟩ = some (.int .u8 3) := (t3.cell (World.block_lt_of_cell? _ _ (HC.out 0 3 H0.out)) (fun f => f)).trans (HC.out 0 3 H0.out)
  have c1 : w3.cell? ⟨g, 1, none⟩ = some (.int .u8 1) := (t3.cell (World.block_lt_of_cell? _ _ (HC.out 1 1 H1.out)) (fun f => f)).trans (HC.out 1 1 H1.out)
  have c2 : w3.cell? ⟨g, 2, none⟩ = some (.int .u8 0) := (t3.cell (World.block_lt_of_cell? _ _ (HC.out 2 0 H2.out)) (fun f => f)).trans (HC.out 2 0 H2.out)
  have c3 : w3.cell? ⟨g, 3, none⟩ = some (.int .u8 0) := (t3.cell (World.block_lt_of_cell? _ _ (HC.out 3 0 H3.out)) (fun f => f)).trans (HC.out 3 0 H3.out)
  have HT3 := Lib.hid t3
  clear ht t3
  go_wp2_with fail
  refine HLN.out.mono ?_
  rintro e w4 ⟨rfl, hw⟩
  subst hw
  go_wp2
  go_ret
  exact ⟨rfl, (HT1.out.trans HM.out.2.1 (fun _ _ f => f)).trans HT3.out (fun _ _ f => f)⟩

end Go.Proofs.YticglepkbihldaaGreat

/-
  Stage 9: keys and facts that came in.
-/
namespace Go.Proofs.YticglepkbihldaaGreat
open Go.RowKit Go.ChangeShapes Go.WideShapes Go.Deep

set_option maxRecDepth 100000

theorem open_text9 {H : Type} {enc : TypeId × Value → H} {W : World} {n : Nat} {c0 : Value} {y : DataW H × List MemPlace} (h : DataW.trod enc Tryz.prog W 0 (fun _ => true) true n 9 [c0] = some y) : ∃ a : List UInt8, c0 = sv9 a := by
  obtain ⟨S, k2, _, sw⟩ := DataW.trod_string Tryz.underlying9 h
  simp only [List.cons.injEq, and_true] at k2
  exact ⟨S.data.toList, k2⟩
theorem open_texts9 {H : Type} {enc : TypeId × Value → H} {W : World} {n : Nat} {c0 c1 c2 c3 : Value} {y : DataW H × List MemPlace} (h : DataW.trod enc Tryz.prog W 0 (fun _ => true) true n 46 [c0, c1, c2, c3] = some y) :
    ∃ a b c d : List UInt8, c0 = sv9 a ∧ c1 = sv9 b ∧ c2 = sv9 c ∧ c3 = sv9 d := by
  obtain ⟨y0, y1, y2, y3, n', _, h0, h1, h2, h3⟩ := trod_array4 Tryz.underlying46 (by kernel_rfl) h
  obtain ⟨a, ha⟩ := open_text9 h0
  obtain ⟨b, hb⟩ := open_text9 h1
  obtain ⟨c, hc⟩ := open_text9 h2
  obtain ⟨d, hd⟩ := open_text9 h3
  exact ⟨a, b, c, d, ha, hb, hc, hd⟩
theorem open_keyc {H : Type} {enc : TypeId × Value → H} {W : World} {n : Nat} {cs : List Value} {y : DataW H × List MemPlace} (hl : cs.length = 5) (h : DataW.trod enc Tryz.prog W 0 (fun _ => true) true n 48 cs = some y) :
    ∃ k : K9, cs = [.int .i64 k.h, sv9 k.a, sv9 k.b, sv9 k.c, sv9 k.d] := by
  obtain ⟨y0, y1, n', _, _, g0, g1⟩ := trod_struct2 Tryz.underlying48 h
  have e1 : Tryz.prog.cellsOf 2 = 1 := by kernel_rfl
  have e4 : Tryz.prog.cellsOf 46 = 4 := by kernel_rfl
  match cs, hl with
  | [c0, c1, c2, c3, c4], _ =>
    simp [e1, e4] at g0 g1
    obtain ⟨K, k0, _, kw⟩ := DataW.trod_int Tryz.underlying2 g0
    simp only [List.cons.injEq, and_true] at k0
    subst k0
    obtain ⟨a, b, c, d, rfl, rfl, rfl, rfl⟩ := open_texts9 g1
    exact ⟨⟨K, a, b, c, d⟩, rfl⟩
theorem open_key9 {H : Type} {enc : TypeId × Value → H} {W : World} {b0 : Nat} {v : Value} {d : DataW H} {p : List MemPlace} (hv : Value.okWide Tryz.prog W .any b0 48 v) (h : DataW.Trod enc Tryz.prog W 0 (fun _ => true) true 48 v d p) : ∃ k : K9, v = kv9 k := by
  simp only [Value.okWide, Tryz.underlying48] at hv
  obtain ⟨cs, rfl, hsz, _⟩ := hv
  obtain ⟨fuel, hf⟩ := h
  have e5 : Tryz.prog.cellsOf 48 = 5 := by kernel_rfl
  obtain ⟨k, hk⟩ := open_keyc (by show (Value.cells (.agg cs)).toList.length = 5; simp [Value.cells]; omega) hf
  refine ⟨k, ?_⟩
  have hk2 : cs.toList = [.int .i64 k.h, sv9 k.a, sv9 k.b, sv9 k.c, sv9 k.d] := hk
  have hk3 : cs = #[.int .i64 k.h, sv9 k.a, sv9 k.b, sv9 k.c, sv9 k.d] := by rw [← Array.toList_inj]; exact hk2
  rw [hk3]
theorem open_factc {H : Type} {enc : TypeId × Value → H} {W : World} (n : Nat) (cs : List Value) (y : DataW H × List MemPlace) (hl : cs.length = EF.sz) (h : DataW.trod enc Tryz.prog W 0 (fun _ => true) true n 89 cs = some y) :
    ∃ f : F9, cs = EF.enc f ∧ (Lit.int .i64 f.v).wf = true := by
  obtain ⟨y0, y1, n', _, _, g0, g1⟩ := trod_struct2 Tryz.underlying89 h
  have e1 : Tryz.prog.cellsOf 2 = 1 := by kernel_rfl
  have e5 : Tryz.prog.cellsOf 48 = 5 := by kernel_rfl
  match cs, hl with
  | [c0, c1, c2, c3, c4, c5], _ =>
    simp [e1, e5] at g0 g1
    obtain ⟨K, k0, _, kw⟩ := DataW.trod_int Tryz.underlying2 g1
    simp only [List.cons.injEq, and_true] at k0
    subst k0
    obtain ⟨k, hk⟩ := open_keyc rfl g0
    simp only [List.cons.injEq, and_true] at hk
    obtain ⟨rfl, rfl, rfl, rfl, rfl⟩ := hk
    exact ⟨⟨k, K⟩, rfl, kw⟩
end Go.Proofs.YticglepkbihldaaGreat

/-
  Stage 11: rows that came in.
-/
namespace Go.Proofs.YticglepkbihldaaGreat
open Go.RowKit Go.ChangeShapes Go.WideShapes Go.Deep

set_option maxRecDepth 100000

theorem fit_of11 {x : Int} (h : (Lit.int .i64 x).wf = true) : fit x = true := by
  rw [fit_iff]
  simpa [Lit.wf, IntKind.min, IntKind.max, IntKind.signed, IntKind.bits] using h
theorem one_num11 {H : Type} {enc : TypeId × Value → H} {W : World} {n : Nat} {v : Value} {y : DataW H × List MemPlace} (h : DataW.trod enc Tryz.prog W 0 (fun _ => true) true n 2 [v] = some y) : ∃ x, v = .int .i64 x ∧ fit x = true := by
  obtain ⟨K, k0, _, kw⟩ := DataW.trod_int Tryz.underlying2 h
  simp only [List.cons.injEq, and_true] at k0
  exact ⟨K, k0, fit_of11 kw⟩
theorem open_cellc11 {H : Type} {enc : TypeId × Value → H} {W : World} {n : Nat} {c0 c1 c2 c3 : Value} {y : DataW H × List MemPlace} (h : DataW.trod enc Tryz.prog W 0 (fun _ => true) true n 50 [c0, c1, c2, c3] = some y) :
    ∃ a b c d : Int, c0 = .int .i64 a ∧ c1 = .int .i64 b ∧ c2 = .int .i64 c ∧ c3 = .int .i64 d ∧ okC ⟨a, b, c, d⟩ := by
  obtain ⟨y0, y1, y2, y3, n', _, _, h0, h1, h2, h3⟩ := Go.Joins.trod_struct4 Tryz.underlying50 h
  have e1 : Tryz.prog.cellsOf 2 = 1 := by kernel_rfl
  simp [e1] at h0 h1 h2 h3
  obtain ⟨x0, rfl, f0⟩ := one_num11 h0
  obtain ⟨x1, rfl, f1⟩ := one_num11 h1
  obtain ⟨x2, rfl, f2⟩ := one_num11 h2
  obtain ⟨x3, rfl, f3⟩ := one_num11 h3
  exact ⟨x0, x1, x2, x3, rfl, rfl, rfl, rfl, f0, f1, f2, f3⟩
theorem open_rowc11 {H : Type} {enc : TypeId × Value → H} {W : World} (n : Nat) (cs : List Value) (y : DataW H × List MemPlace) (hl : cs.length = ER.sz) (h : DataW.trod enc Tryz.prog W 0 (fun _ => true) true n 52 cs = some y) :
    ∃ r : R11, cs = ER.enc r ∧ okC r.c := by
  obtain ⟨y0, y1, n', _, _, g0, g1⟩ := trod_struct2 Tryz.underlying52 h
  have e4 : Tryz.prog.cellsOf 50 = 4 := by kernel_rfl
  have e5 : Tryz.prog.cellsOf 48 = 5 := by kernel_rfl
  match cs, hl with
  | [c0, c1, c2, c3, c4, c5, c6, c7, c8], _ =>
    simp [e4, e5] at g0 g1
    obtain ⟨a, b, c, d, rfl, rfl, rfl, rfl, hok⟩ := open_cellc11 g1
    obtain ⟨k, hk⟩ := open_keyc rfl g0
    simp only [List.cons.injEq, and_true] at hk
    obtain ⟨rfl, rfl, rfl, rfl, rfl⟩ := hk
    exact ⟨⟨k, ⟨a, b, c, d⟩⟩, rfl, hok⟩
theorem open_rows11 {H : Type} {enc : TypeId × Value → H} {W : World} {v : Value} {d : DataW H} {p : List MemPlace} {a : Option Addr} {len cap : Nat} (hv : v = .slice a len cap)
    (h : DataW.Trod enc Tryz.prog W 0 (fun _ => true) true 22 v d p) : ∃ l : List R11, RdE ER W v l ∧ l.length ≤ maxLen ∧ ∀ r ∈ l, okC r.c :=
  open_elems ER _ Tryz.underlying22 (by kernel_rfl) hv h open_rowc11

end Go.Proofs.YticglepkbihldaaGreat

/-
  Stage 12: the document's Fits and Texts.
-/
namespace Go.Proofs.YticglepkbihldaaGreat
open Go.RowKit

set_option maxRecDepth 100000

theorem fitL_first {l : List R11} {n : Int} (hd : okDims n = true) {i : Nat} {r : R11} (hi : l[i]? = some r) (he : ∀ j s, j < i → l[j]? = some s → chkF ⟨s.k, 0⟩ n = 0) (h : chkF ⟨r.k, 0⟩ n ≠ 0) : fitL l n = chkF ⟨r.k, 0⟩ n := by
  unfold fitL
  rw [if_pos hd]
  obtain ⟨h0, e⟩ := List.getElem?_eq_some_iff.1 hi
  have hs : l = l.take i ++ r :: l.drop (i + 1) := by rw [← e, List.getElem_cons_drop, List.take_append_drop]
  rw [hs]
  refine fitR_at (fun s hs => ?_) h
  obtain ⟨j, hj, e2⟩ := List.getElem_of_mem hs
  rw [List.length_take] at hj
  exact he j s (by omega) (by rw [← e2, List.getElem_take, List.getElem?_eq_getElem])
set_option maxHeartbeats 8000000 in
theorem ref_fits12 (v : Value) (l : List R11) (n : Int) (w : World) (hv : RdE ER w v l) (hl : l.length ≤ 20000) : Calls Tryz.prog 10 #[v, .int .i64 n] w fun e w' => e = .returned (.int .i64 (fitL l n)) ∧ Turn (fun _ => False) w w' := by
  have HV := Lib.hid hv
  obtain ⟨A, c, rfl⟩ := hv.shape
  clear hv
  by_cases n1 : n < 1
  · have HZ : Hid (fitL l n = 1) := by show _ = _; unfold fitL okDims; rw [if_neg (by simp; omega)]
    go_enter Tryz.func10, Tryz.ntmps10
    go_wp2
    go_ret
    rw [HZ.out]
    exact ⟨rfl, Turn.refl _ _⟩
  · by_cases n4 : 4 < n
    · have HZ : Hid (fitL l n = 1) := by show _ = _; unfold fitL okDims; rw [if_neg (by simp; omega)]
      go_enter Tryz.func10, Tryz.ntmps10
      go_wp2
      go_ret
      rw [HZ.out]
      exact ⟨rfl, Turn.refl _ _⟩
    · have HN : Hid (1 ≤ n ∧ n ≤ 4) := by show _ ∧ _; omega
      have HOK : Hid (okDims n = true) := by show _ = _; unfold okDims; simp; omega
      go_enter Tryz.func10, Tryz.ntmps10
      go_wp2_with fail
      go_loopw [5] (fun x5 wr => ∃ i : Nat, x5 = .int .i64 (i : Int) ∧ i ≤ l.length ∧ (∀ j s, j < i → l[j]? = some s → chkF ⟨s.k, 0⟩ n = 0) ∧ Turn (fun _ => False) w wr) (fun x5 _ => l.length - (intOf x5).toNat)
      case atStart => exact ⟨0, rfl, Nat.zero_le _, fun j s hj => absurd hj (Nat.not_lt_zero j), Turn.refl _ _⟩
      case round =>
        obtain ⟨i, rfl, hi, he, ht⟩ := hrel
        have HE := Lib.hid he; have HT := Lib.hid ht
        clear he ht
        by_cases hlt : i < l.length
        · obtain ⟨⟨k, cc⟩, hx⟩ : ∃ x, l[i]? = some x := ⟨_, List.getElem?_eq_getElem hlt⟩
          have HX := Lib.hid hx
          have HBAD : Hid (∀ x : Int, chkF ⟨k, 0⟩ n = x → x ≠ 0 → fitL l n = x) := fun x h1 h2 => by rw [fitL_first HOK.out HX.out HE.out (by rw [h1]; exact h2), h1]
          have HGO : Hid (chkF ⟨k, 0⟩ n = 0 → ∀ j s, j < i + 1 → l[j]? = some s → chkF ⟨s.k, 0⟩ n = 0) := fun h j s hj hs => by
            by_cases e : j = i
            · subst e
              have := hs.symm.trans HX.out
              injection this with e2
              rw [e2]
              exact h
            · exact HE.out j s (by omega) hs
          obtain ⟨ad, rfl, hc⟩ := row_at11 (HV.out.later HT.out) hx
          obtain ⟨a0, a1, a2, a3, a4, -⟩ := hc wr (Turn.refl _ _)
          have hil : (i : Int) < l.length := by omega
          obtain ⟨g, hg⟩ : ∃ g : Nat, g = wr.heap.size := ⟨_, rfl⟩
          obtain ⟨wk, hwk⟩ : ∃ wk, wk = wr.alloc (.cells #[.int .i64 k.h, sv9 k.a, sv9 k.b, sv9 k.c, sv9 k.d] 48) := ⟨_, rfl⟩
          have HBK : Hid (Box wk g 48 #[.int .i64 k.h, sv9 k.a, sv9 k.b, sv9 k.c, sv9 k.d]) := by rw [hwk, hg]; exact Box.new wr _ _
          have HTK : Hid (Turn (fun _ => False) w wk) := by rw [hwk]; exact HT.out.alloc _
          have hc0 : (wr.alloc (.cells #[.int .i64 k.h, sv9 k.a, sv9 k.b, sv9 k.c, sv9 k.d] 48)).cell? ⟨wr.heap.size, 0, none⟩ = some (.int .i64 k.h) := (Box.new wr _ _).cell 0
          have HWK := Lib.hid hwk; have HGG := Lib.hid hg
          clear hc hx hwk hg
          by_cases r1 : k.h < 0
          · have HZ := Lib.hid (HBAD.out 2 (chk_range HN.out (by simp only; omega)) (by decide))
            clear HBAD HGO
            go_wp2
            go_ret
            rw [HZ.out]
            exact ⟨rfl, by rw [← HWK.out]; exact HTK.out⟩
          · by_cases r2 : 16777216 < k.h
            · have HZ := Lib.hid (HBAD.out 2 (chk_range HN.out (by simp only; omega)) (by decide))
              clear HBAD HGO
              go_wp2
              go_ret
              rw [HZ.out]
              exact ⟨rfl, by rw [← HWK.out]; exact HTK.out⟩
            · have HRG : Hid (0 ≤ (⟨k, 0⟩ : F9).k.h ∧ (⟨k, 0⟩ : F9).k.h ≤ 16777216 ∧ (⟨k, 0⟩ : F9).v ≤ 1152921504606846976 ∧ -1152921504606846976 ≤ (⟨k, 0⟩ : F9).v) := by
                refine ⟨by simp only; omega, by simp only; omega, by simp only; omega, by simp only; omega⟩
              go_wp2_with fail
              rw [← HWK.out, ← HGG.out]
              clear a0 a1 a2 a3 a4 hc0
              go_loopw [7] (fun x7 wz => wz = wk ∧ ∃ d : Nat, x7 = .int .i64 (d : Int) ∧ d ≤ 4 ∧ ∀ j, j < d → okText n j (k.dim j) = true) (fun x7 _ => 4 - (intOf x7).toNat)
              case atStart => exact ⟨rfl, 0, rfl, Nat.zero_le _, fun j hj => absurd hj (Nat.not_lt_zero j)⟩
              case round =>
                obtain ⟨hwz, d, rfl, hd, hs⟩ := hrel
                subst hwz
                have HSH := Lib.hid hs
                clear hs
                by_cases hdl : d < 4
                · have hd4 : (d : Int) < 4 := by omega
                  have e1 : wr.cell? ⟨g, 1 + d, none⟩ = some (sv9 (k.dim d)) := by rw [HBK.out.cell]; exact key_cells d hdl
                  have HNOT : Hid (okText n d (k.dim d) = false → fitL l n = 4) := fun h => HBAD.out 4 (chk_text HN.out HRG.out (okTexts_not hdl h)) (by decide)
                  have HYES : Hid (okText n d (k.dim d) = true → ∀ j, j < d + 1 → okText n j (k.dim j) = true) := fun h j hj => by
                    by_cases e : j = d
                    · rw [e]; exact h
                    · exact HSH.out j (by omega)
                  unfold sv9 at e1
                  generalize k.dim d = T at *
                  by_cases hlen : 16 < T.length
                  · have hli : (16 : Int) < T.length := by omega
                    have HZ := Lib.hid (HNOT.out (by simp [okText]; intro h; omega))
                    clear HNOT HYES
                    go_wp2
                    go_ret
                    rw [HZ.out]
                    exact ⟨rfl, HTK.out⟩
                  · have hli : ¬ ((16 : Int) < T.length) := by omega
                    by_cases hin : (d : Int) < n
                    · have hni : ¬ n ≤ (d : Int) := by omega
                      have HZ := Lib.hid (HYES.out (by simp [okText, hin]; omega))
                      clear HNOT HYES
                      go_wp2
                      go_roundw
                      case rel => exact ⟨trivial, d + 1, by go_num, hdl, HZ.out⟩
                      case measure => simp [intOf]; omega
                    · have hni : n ≤ (d : Int) := by omega
                      cases T with
                      | nil =>
                        have HZ := Lib.hid (HYES.out (by simp [okText]))
                        clear HNOT HYES
                        go_wp2
                        go_roundw
                        case rel => exact ⟨trivial, d + 1, by go_num, hdl, HZ.out⟩
                        case measure => simp [intOf]; omega
                      | cons t T =>
                        have hli2 : (T.length : Int) + 1 ≤ 16 := by rw [List.length_cons] at hlen; omega
                        have HZ := Lib.hid (HNOT.out (by simp [okText]; omega))
                        clear HNOT HYES
                        go_wp2
                        go_ret
                        rw [HZ.out]
                        exact ⟨rfl, HTK.out⟩
                · obtain rfl : d = 4 := by omega
                  have HZ := Lib.hid (HGO.out (chk_ok HN.out HRG.out (okTexts_all HSH.out)))
                  clear HBAD HGO
                  go_wp2
                  go_roundw
                  case rel => exact ⟨i + 1, by go_num, hlt, HZ.out, HTK.out⟩
                  case measure => simp [intOf]; omega
        · obtain rfl : i = l.length := by omega
          have HZ : Hid (fitL l n = 0) := fitL_ok.2 ⟨HOK.out, fun r hr => by
            obtain ⟨j, hj, e⟩ := List.getElem_of_mem hr
            exact HE.out j r hj (by rw [List.getElem?_eq_getElem hj, e])⟩
          go_wp2
          go_ret
          rw [HZ.out]
          exact ⟨rfl, HT.out⟩

set_option maxHeartbeats 8000000 in
theorem ref_texts12 (v : Value) (l : List R11) (n : Int) (w : World) (hv : RdE ER w v l) (hl : l.length ≤ 20000) : Calls Tryz.prog 13 #[v, .int .i64 n] w fun e w' => TextsT10 w (textsL l n) e w' := by
  have HV := Lib.hid hv
  obtain ⟨A, c, rfl⟩ := hv.shape
  clear hv
  by_cases hn : 0 ≤ n ∧ n < 4
  · obtain ⟨n0, n4⟩ := hn
    obtain ⟨d, rfl⟩ := Int.eq_ofNat_of_zero_le n0
    have hd4 : d < 4 := by omega
    have hg1 : ¬ (4 : Int) ≤ (d : Int) := by omega
    have hg0 : ¬ (d : Int) < 0 := by omega
    rw [textsL_at hd4]
    have HN0 : Hid (NewE ET10 9 w w (.slice none 0 0) []) := ⟨OwE.nil _, (fun k e => by simp [Value.ownBlock] at e), Turn.refl _ w⟩
    go_enter Tryz.func13, Tryz.ntmps13
    go_wp2_with fail
    go_loopw [5, 6] (fun x5 x6 wr => ∃ i : Nat, x6 = .int .i64 (i : Int) ∧ i ≤ l.length ∧ NewE ET10 9 w wr x5 ((l.take i).map fun r => r.k.dim d)) (fun _ x6 _ => l.length - (intOf x6).toNat)
    case atStart => exact ⟨0, rfl, Nat.zero_le _, by rw [List.take_zero]; exact HN0.out⟩
    case round =>
      obtain ⟨i, rfl, hi, hm⟩ := hrel
      have HM := Lib.hid hm
      obtain ⟨A2, c2, hv2⟩ := hm.own.shape
      have hti : ((l.take i).map fun r => r.k.dim d).length = i := by rw [List.length_map, List.length_take]; omega
      rw [hti] at hv2
      subst hv2
      have HTI := Lib.hid hti
      clear hm hti
      by_cases hlt : i < l.length
      · obtain ⟨x, hx⟩ : ∃ x, l[i]? = some x := ⟨_, List.getElem?_eq_getElem hlt⟩
        obtain ⟨ad, rfl, hc⟩ := row_at11 (HV.out.later HM.out.turn) hx
        obtain ⟨a0, a1, a2, a3, a4, -⟩ := hc wr (Turn.refl _ _)
        have e1 : wr.cell? ⟨(ad.add (i * 9)).block, (ad.add (i * 9)).off + 1 + d, none⟩ = some (sv10 (x.k.dim d)) := by
          match d, hd4 with
          | 0, _ => exact a1
          | 1, _ => exact a2
          | 2, _ => exact a3
          | 3, _ => exact a4
        have HTK : Hid ((l.take (i + 1)).map (fun r => r.k.dim d) = (l.take i).map (fun r => r.k.dim d) ++ [x.k.dim d]) := by
          show _ = _
          obtain ⟨h0, e⟩ := List.getElem?_eq_some_iff.1 hx
          rw [List.take_succ_eq_append_getElem h0, e, List.map_append]
          rfl
        have hil : (i : Int) < l.length := by omega
        have hd4i : (d : Int) < 4 := by omega
        clear hc hx a0 a1 a2 a3 a4
        obtain ⟨M, hM⟩ : ∃ M : List (List UInt8), M = (l.take i).map (fun r => r.k.dim d) := ⟨_, rfl⟩
        rw [← hM] at HTK HM HTI
        generalize x.k.dim d = t at *
        have HN1 := Lib.hid (HM.out.alloc (.cells #[sv10 t] 9))
        have HSR : Hid (RdE ET10 (wr.alloc (.cells #[sv10 t] 9)) (.slice (some ⟨wr.heap.size, 0, none⟩) 1 1) [t]) := one_row ET10 9 wr t
        have HLEN : Hid (M.length + [t].length ≤ 3000000) := by show _ ≤ _; rw [HTI.out]; simp only [List.length_cons, List.length_nil]; omega
        unfold sv10 at e1
        clear hM
        go_wp2_with (at_builtin; refine wpList_texts10 _ rfl _ _ rfl _ M rfl HN1.out.own _ rfl [t] HSR.out HLEN.out ?_; intro A3 n3 c3 w3 ho ht hn3; have HN3 := Lib.hid (HN1.out.step ho ht hn3); clear ho ht hn3)
        go_roundw
        case rel => exact ⟨i + 1, by go_num, hlt, by rw [HTK.out]; exact HN3.out⟩
        case measure => simp [intOf]; omega
      · obtain rfl : i = l.length := by omega
        have HME : Hid (NewE ET10 9 w wr (.slice A2 l.length c2) (l.map fun r => r.k.dim d)) := by have h := HM.out; rwa [List.take_length] at h
        have HOF := Lib.hid (ref_of_typ10 _ _ wr HME.out.own.rd (by rw [List.length_map]; exact hl))
        go_wp2_with fail
        refine HOF.out.mono ?_
        rintro e w2 ⟨v2, rfl, hr, t2, hty⟩
        obtain ⟨A4, c4, rfl⟩ := hr.shape
        have HR := Lib.hid hr; have HT2 := Lib.hid t2; have HTY := Lib.hid hty
        clear hr t2 HOF hty
        go_wp2
        go_ret
        exact ⟨_, rfl, HR.out, HME.out.turn.trans HT2.out (fun _ _ f => f), HTY.out⟩
  · rw [textsL_no hn]
    by_cases n0 : n < 0
    · clear hn
      go_enter Tryz.func13, Tryz.ntmps13
      go_wp2
      go_ret
      exact ⟨_, rfl, RdE.nil _, Turn.refl _ _, fun k hk => by cases hk⟩
    · have n4 : 4 ≤ n := by omega
      clear hn
      go_enter Tryz.func13, Tryz.ntmps13
      go_wp2
      go_ret
      exact ⟨_, rfl, RdE.nil _, Turn.refl _ _, fun k hk => by cases hk⟩

end Go.Proofs.YticglepkbihldaaGreat
