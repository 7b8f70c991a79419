/-
  Texts laid one behind the other: Q3h Q3i Gf Ep Dca Q3j Hp Q3k.
-/
import Derived.Test.YtclljogbingjiaaJocae
import Derived.Test.YtclljogbingjiaaJocad
import Derived.ProofKit
import Derived.OpenShut
import Derived.Deep.Slices
import Derived.Deep.Fields
import Derived.Deep.Strs
import Derived.Deep.QuietTactic
import Derived.BigQuiet

/-
  Stage 15: the document's Bytes, Loose.
-/
namespace Go.Proofs.Ytclljogbingjiaa
open Go.RowKit

set_option maxRecDepth 100000

theorem bytes_le15 : ∀ {l : List (List UInt8 × FB15)} {m : Nat}, (∀ p ∈ l, p.2.1.length ≤ m) → 0 ≤ bytes15 l ∧ bytes15 l ≤ (l.length * m : Nat)
  | [], m, _ => ⟨Int.le_refl _, by simp [bytes15]⟩
  | p :: l, m, h => by
    have ih := bytes_le15 (l := l) (m := m) (fun q hq => h q (List.mem_cons_of_mem _ hq))
    have h1 := h p (List.mem_cons_self ..)
    have e : bytes15 (p :: l) = (p.2.1.length : Int) + bytes15 l := by simp [bytes15]
    rw [e, List.length_cons, Nat.add_mul, Nat.one_mul]
    constructor
    · omega
    · have := ih.2
      omega
theorem bytes_snoc15 (l : List (List UInt8 × FB15)) (p : List UInt8 × FB15) : bytes15 (l ++ [p]) = bytes15 l + (p.2.1.length : Int) := by
  simp [bytes15]
theorem take_snoc15 {A : Type} {l : List A} {i : Nat} {x : A} (h : l[i]? = some x) : l.take (i + 1) = l.take i ++ [x] := by
  obtain ⟨h0, e⟩ := List.getElem?_eq_some_iff.1 h
  rw [List.take_succ_eq_append_getElem h0, e]

set_option maxHeartbeats 4000000 in
theorem ref_bytes15 (g : Nat) (sl : Value) (d : D15) (w : World) (hm : RD15 w g sl d) (hl : d.l.length ≤ 10000) (hf : ∀ p ∈ d.l, p.2.1.length ≤ 9000000) :
    Calls Try.prog 13 #[.pointer (some ⟨g, 0, none⟩)] w fun e w' => e = .returned (.int .i64 (bytes15 d.l)) ∧ Turn (fun _ => False) w w' := by
  obtain ⟨A, c, rfl⟩ := hm.row.shape
  have HR := Lib.hid hm.row
  have hobj := hm.box.cell 0
  have HF := Lib.hid hf
  generalize d.l = L at *
  clear hm hf
  go_enter Try.func13, Try.ntmps13
  go_wp2_with fail
  go_loop [3, 4] (fun x3 x4 => ∃ i : Nat, x4 = .int .i64 (i : Int) ∧ i ≤ L.length ∧ x3 = .int .i64 (bytes15 (L.take i))) (fun _ x4 => L.length - (intOf x4).toNat)
  case atStart => exact ⟨0, rfl, Nat.zero_le _, rfl⟩
  case round =>
    obtain ⟨i, rfl, hi, rfl⟩ := hrel
    by_cases hlt : i < L.length
    · obtain ⟨p, hp⟩ : ∃ p, L[i]? = some p := ⟨_, List.getElem?_eq_getElem hlt⟩
      obtain ⟨ad, rfl, hc⟩ := file_at15 HR.out hp
      obtain ⟨-, h1, -⟩ := hc w (Turn.refl _ w)
      have HS : Hid (bytes15 (L.take (i + 1)) = bytes15 (L.take i) + (p.2.1.length : Int)) := by show _ = _; rw [take_snoc15 hp, bytes_snoc15]
      have hle := bytes_le15 (l := L.take i) (m := 9000000) (fun q hq => HF.out q (List.mem_of_mem_take hq))
      have hpl := HF.out p (List.mem_of_getElem? hp)
      rw [List.length_take, Nat.min_eq_left hi] at hle
      have hsz : ByteArray.size ⟨p.2.1.toArray⟩ = p.2.1.length := rfl
      generalize bytes15 (L.take i) = s at *
      obtain ⟨hs0, hs1⟩ := hle
      have hs2 : s ≤ 90000000000 := by omega
      have hil : (i : Int) < L.length := by omega
      clear hc hp hs1
      go_wp2
      go_round
      case rel => exact ⟨i + 1, by go_num, hlt, by rw [HS.out]⟩
      case measure => simp [intOf]; omega
    · obtain rfl : i = L.length := by omega
      have HE : Hid (bytes15 (L.take L.length) = bytes15 L) := by show _ = _; rw [List.take_length]
      generalize bytes15 (L.take L.length) = s at *
      go_wp2
      go_ret
      exact ⟨by first | rfl | (rw [HE.out]; rfl) | fail, Turn.refl _ _⟩

set_option maxHeartbeats 4000000 in
theorem ref_loose15 (g : Nat) (sl : Value) (d : D15) (n : List UInt8) (w : World) (hm : RD15 w g sl d) (hl : d.l.length ≤ 10000) (hf : ∀ f, getK ltN d.l n = some f → f.2 ≤ f.1.length ∧ f.1.length ≤ 9000000) :
    Calls Try.prog 17 #[.pointer (some ⟨g, 0, none⟩), sv15 n] w fun e w' => e = .returned (.int .i64 (loose15 d n)) ∧ Turn (fun _ => False) w w' := by
  have HFN := Lib.hid (ref_find15 g _ d n w hm hl)
  have HM := Lib.hid hm
  cases hh : hasK ltN d.l n with
  | false =>
    have HS : Hid (loose15 d n = 0) := by show _ = _; unfold loose15 file15; rw [get_not15 hh]; rfl
    rw [hh] at HFN
    clear hm hh hf
    generalize plc ltN d.l n = P at *
    go_enter Try.func17, Try.ntmps17
    go_wp2_with fail
    refine HFN.out.mono ?_
    rintro e w1 ⟨rfl, t1⟩
    have HT := Lib.hid t1
    clear t1 HFN
    go_wp2
    go_ret
    rw [HS.out]
    exact ⟨rfl, HT.out⟩
  | true =>
    obtain ⟨⟨fb, fs⟩, hv, hg⟩ := get_has15 hh
    obtain ⟨hf1, hf2⟩ := hf _ hg
    dsimp only at hf1 hf2
    have hlt : plc ltN d.l n < d.l.length := (List.getElem?_eq_some_iff.1 hv).1
    have HS : Hid (loose15 d n = (fb.length : Int) - (fs : Int)) := by show _ = _; unfold loose15 file15; rw [hg]; rfl
    obtain ⟨A, c, rfl⟩ := hm.row.shape
    obtain ⟨ad, rfl, hc⟩ := file_at15 hm.row hv
    have HC := Lib.hid hc
    have HC0 : Hid (∀ W, Turn (fun _ => False) w W → W.cell? ⟨g, 0, none⟩ = some (.slice (some ad) d.l.length c)) := fun W ht => (hm.box.turn ht (fun f => f)).cell 0
    rw [hh] at HFN
    have hli : (plc ltN d.l n : Int) < d.l.length := by omega
    have hsz : ByteArray.size ⟨fb.toArray⟩ = fb.length := rfl
    clear hm hh hg hv hc hlt hf
    generalize plc ltN d.l n = P at *
    go_enter Try.func17, Try.ntmps17
    go_wp2_with fail
    refine HFN.out.mono ?_
    rintro e w1 ⟨rfl, t1⟩
    have HT := Lib.hid t1
    have c0 := HC0.out w1 t1
    obtain ⟨x0, x1, x2⟩ := HC.out w1 t1
    clear t1 HFN
    go_wp2
    go_quiet (fail)
    go_wp2
    go_ret
    rw [HS.out]
    exact ⟨rfl, HT.out.drewN _⟩

end Go.Proofs.Ytclljogbingjiaa

/-
  Stage 15: the document's Crash.
-/
namespace Go.Proofs.Ytclljogbingjiaa
open Go.RowKit

set_option maxRecDepth 100000

theorem str_take15 (l : List UInt8) (j : Nat) : (⟨l.toArray⟩ : ByteArray).extract 0 j = ⟨(l.take j).toArray⟩ := by
  apply ByteArray.ext
  rw [ByteArray.data_extract]
  simp
theorem stay_le15 {keep : Int} {f : FB15} (h : f.2 ≤ f.1.length) : stay15 keep f ≤ f.1.length := by
  unfold stay15
  split
  · have := Nat.mod_lt keep.toNat (show f.1.length - f.2 + 1 > 0 by omega)
    omega
  · exact h
theorem stay_int15 {keep : Int} {f : FB15} (h : f.2 ≤ f.1.length) (hk : 0 ≤ keep) : (stay15 keep f : Int) = (f.2 : Int) + Int.tmod keep ((f.1.length : Int) - (f.2 : Int) + 1) := by
  unfold stay15
  rw [if_pos hk]
  obtain ⟨k, rfl⟩ := Int.eq_ofNat_of_zero_le hk
  have e : (f.1.length : Int) - (f.2 : Int) + 1 = ((f.1.length - f.2 + 1 : Nat) : Int) := by omega
  rw [e, Int.toNat_natCast, ← Int.ofNat_tmod]
  rfl

set_option maxHeartbeats 16000000 in
theorem ref_crash15 (g : Nat) (sl : Value) (d : D15) (keep : Int) (_hkw : (Lit.int .i64 keep).wf = true) (w : World) (hm : RD15 w g sl d) (hl : d.l.length ≤ 10000) (hf : ∀ p ∈ d.l, p.2.2 ≤ p.2.1.length ∧ p.2.1.length ≤ 9000000) :
    Calls Try.prog 34 #[.pointer (some ⟨g, 0, none⟩), .int .i64 keep] w fun e w' => DoesN15 w g (crash15 d keep) (.tuple #[]) e w' := by
  obtain ⟨A, c, rfl⟩ := hm.row.shape
  have HM := Lib.hid hm
  have HF := Lib.hid hf
  have HC0 : Hid (∀ W, Turn (fun _ => False) w W → W.cell? ⟨g, 0, none⟩ = some (.slice A d.l.length c)) := fun W ht => (hm.box.turn ht (fun f => f)).cell 0
  have hc0 := HC0.out w (Turn.refl _ _)
  have H0 : Hid (NewE E15 69 w w (.slice none 0 0) ((d.l.take 0).map fun p => (p.1, cut15 keep p.2))) := ⟨OwE.nil _, (fun k e => by simp [Value.ownBlock] at e), Turn.refl _ _⟩
  clear hm hf
  go_enter Try.func34, Try.ntmps34
  go_wp2_with fail
  go_loopw [4, 5] (fun x4 x5 wr => ∃ i : Nat, x5 = .int .i64 (i : Int) ∧ i ≤ d.l.length ∧ NewE E15 69 w wr x4 ((d.l.take i).map fun p => (p.1, cut15 keep p.2))) (fun _ x5 _ => d.l.length - (intOf x5).toNat)
  case atStart => exact ⟨0, rfl, Nat.zero_le _, H0.out⟩
  case round =>
    clear hc0 H0
    obtain ⟨i, rfl, hi, hn⟩ := hrel
    obtain ⟨B4, d4, e4⟩ := hn.own.shape
    have hln : ((d.l.take i).map fun p => (p.1, cut15 keep p.2)).length = i := by rw [List.length_map, List.length_take]; omega
    rw [hln] at e4
    subst e4
    have HN := Lib.hid hn
    have HLN := Lib.hid hln
    have hc0 := HC0.out wr hn.turn
    clear hn hln
    by_cases hlt : i < d.l.length
    · obtain ⟨p, hp⟩ : ∃ p, d.l[i]? = some p := ⟨_, List.getElem?_eq_getElem hlt⟩
      obtain ⟨ad, rfl, hc⟩ := file_at15 HM.out.row hp
      obtain ⟨x0, x1, x2⟩ := hc wr HN.out.turn
      obtain ⟨hf1, hf2⟩ := HF.out p (List.mem_of_getElem? hp)
      have HTK : Hid ((d.l.take (i + 1)).map (fun p => (p.1, cut15 keep p.2)) = (d.l.take i).map (fun p => (p.1, cut15 keep p.2)) ++ [(p.1, cut15 keep p.2)]) := by show _ = _; rw [take_snoc15 hp, List.map_append]; rfl
      obtain ⟨pn, fb, fs⟩ := p
      dsimp only at x0 x1 x2 hf1 hf2 HTK
      have HST : Hid (stay15 keep (fb, fs) ≤ fb.length) := stay_le15 hf1
      have HSI : Hid (0 ≤ keep → (stay15 keep (fb, fs) : Int) = (fs : Int) + Int.tmod keep ((fb.length : Int) - (fs : Int) + 1)) := fun h => stay_int15 (f := (fb, fs)) hf1 h
      have HSN : Hid (keep < 0 → stay15 keep (fb, fs) = fs) := fun h => if_neg (by omega)
      have HCU : Hid (cut15 keep (fb, fs) = (fb.take (stay15 keep (fb, fs)), stay15 keep (fb, fs))) := rfl
      have hil : (i : Int) < d.l.length := by omega
      obtain ⟨w1, hw1⟩ : ∃ w1, w1 = wr.alloc (.cells #[sv15 pn, sv15 fb, .int .i64 (fs : Int)] 69) := ⟨_, rfl⟩
      obtain ⟨b, hbb⟩ : ∃ b, b = wr.heap.size := ⟨_, rfl⟩
      have HB1 : Hid (Box w1 b 69 #[sv15 pn, sv15 fb, .int .i64 (fs : Int)]) := by rw [hw1, hbb]; exact Box.new wr _ _
      have HT1 : Hid (Turn (fun _ => False) wr w1) := by rw [hw1]; exact (Turn.refl _ wr).alloc _
      have HW1 := Lib.hid hw1; have HBB := Lib.hid hbb
      have hsz : ByteArray.size ⟨fb.toArray⟩ = fb.length := rfl
      generalize hM : stay15 keep (fb, fs) = M at *
      clear hc hp hw1 hbb hM
      by_cases hk : 0 ≤ keep
      · have hdv : ¬ ((fb.length : Int) - (fs : Int) + 1 = 0) := by omega
        have hm1 := HSI.out hk
        have hge : Int.tmod keep ((fb.length : Int) - (fs : Int) + 1) = (M : Int) - (fs : Int) := by omega
        have hMl := HST.out
        have hsum : (fs : Int) + ((M : Int) - (fs : Int)) = (M : Int) := by omega
        clear hm1 HSI HSN
        go_wp2_with fail
        rw [← HW1.out, ← HBB.out]
        have HNB : Hid (¬ (Value.slice B4 i d4).ownBlock = some b) := fun e => by have h1 := HN.out.own.lt e; have h2 := HBB.out; omega
        have HNN : Hid (∀ k, (Value.slice B4 i d4).ownBlock = some k → w.heap.size ≤ k) := HN.out.new
        refine drawn_region (fun W => Turn (fun k => (Value.slice B4 i d4).ownBlock = some k) w1 W) [] (by kernel_rfl) ?_
        have HTD : Hid (Turn (fun _ => False) w1 (World.drew w1)) := (Turn.refl _ w1).drew
        have hS0 : Turn (fun k => (Value.slice B4 i d4).ownBlock = some k) w1 (World.drew w1) := HTD.out.mono (fun _ _ f => f.elim)
        generalize World.drew w1 = wd at *
        refine drawn_take 0 39 (.slice B4 i d4) rfl rfl (by kernel_rfl) (by kernel_rfl) (by kernel_rfl) (by kernel_rfl) (fun _ _ _ h => h) (by rfl) (by assumption) (by intro w hSw; obtain hS1 := hSw; go_simp) ?_
        try simp only [List.setIfInBounds_toArray, List.set_cons_zero, List.set_cons_succ]
        refine drawn_take 1 40 (.pointer (some ⟨b, 0, none⟩)) rfl rfl (by kernel_rfl) (by kernel_rfl) (by kernel_rfl) (by kernel_rfl) (fun _ _ _ h => h) (by rfl) (by assumption) (by intro w hSw; obtain hS1 := hSw; go_simp) ?_
        try simp only [List.setIfInBounds_toArray, List.set_cons_zero, List.set_cons_succ]
        refine drawn_take 2 41 (sv15 pn) rfl rfl (by kernel_rfl) (by kernel_rfl) (by kernel_rfl) (by kernel_rfl) (fun _ _ _ h => h) (by rfl) (by assumption) (by intro w hSw; have a0 := (HB1.out.turn hSw HNB.out).cell 0; clear hSw; go_simp) ?_
        try simp only [List.setIfInBounds_toArray, List.set_cons_zero, List.set_cons_succ]
        refine drawn_take 3 42 (.pointer (some ⟨b, 1, none⟩)) rfl rfl (by kernel_rfl) (by kernel_rfl) (by kernel_rfl) (by kernel_rfl) (fun _ _ _ h => h) (by rfl) (by assumption) (by intro w hSw; obtain hS1 := hSw; go_simp) ?_
        try simp only [List.setIfInBounds_toArray, List.set_cons_zero, List.set_cons_succ]
        refine drawn_take 4 43 (sv15 fb) rfl rfl (by kernel_rfl) (by kernel_rfl) (by kernel_rfl) (by kernel_rfl) (fun _ _ _ h => h) (by rfl) (by assumption) (by intro w hSw; have a1 := (HB1.out.turn hSw HNB.out).cell 1; clear hSw; go_simp) ?_
        try simp only [List.setIfInBounds_toArray, List.set_cons_zero, List.set_cons_succ]
        refine drawn_take 5 44 (.int .i64 (M : Int)) rfl rfl (by kernel_rfl) (by kernel_rfl) (by kernel_rfl) (by kernel_rfl) (fun _ _ _ h => h) (by rfl) (by assumption) (by intro w hSw; obtain hS1 := hSw; go_simp) ?_
        try simp only [List.setIfInBounds_toArray, List.set_cons_zero, List.set_cons_succ]
        refine drawn_take 6 45 (sv15 (fb.take M)) rfl rfl (by kernel_rfl) (by kernel_rfl) (by kernel_rfl) (by kernel_rfl) (fun _ _ _ h => h) (by rfl) (by assumption) (by intro w hSw; have hst := str_take15 fb M; have hM := HST.out; clear hSw; go_simp) ?_
        try simp only [List.setIfInBounds_toArray, List.set_cons_zero, List.set_cons_succ]
        refine drawn_take 7 46 (.int .i64 (M : Int)) rfl rfl (by kernel_rfl) (by kernel_rfl) (by kernel_rfl) (by kernel_rfl) (fun _ _ _ h => h) (by rfl) (by assumption) (by intro w hSw; obtain hS1 := hSw; go_simp) ?_
        try simp only [List.setIfInBounds_toArray, List.set_cons_zero, List.set_cons_succ]
        refine drawn_take 8 47 (.agg #[sv15 pn, sv15 (fb.take M), .int .i64 (M : Int)]) rfl rfl (by kernel_rfl) (by kernel_rfl) (by kernel_rfl) (by kernel_rfl) (fun _ _ _ h => h) (by rfl) (by assumption) (by intro w hSw; obtain hS1 := hSw; go_simp) ?_
        try simp only [List.setIfInBounds_toArray, List.set_cons_zero, List.set_cons_succ]
        refine drawn_any [9] (by kernel_rfl) (by simp) ?_
        refine drawn_cons rfl (fun K hK => ?_) drawn_nil
        go_simp
        have HX := Lib.hid (one_row E15 69 wd (pn, (fb.take M, M)))
        have HT3 : Hid (Turn (fun _ => False) wr (wd.alloc (.cells (E15.enc (pn, (fb.take M, M))).toArray 69))) := (HT1.out.trans HTD.out (fun _ _ f => f)).alloc _
        have hS3 : Turn (fun k => (Value.slice B4 i d4).ownBlock = some k) w1 (wd.alloc (.cells (E15.enc (pn, (fb.take M, M))).toArray 69)) := (HTD.out.alloc _).mono (fun _ _ f => f.elim)
        have HN3 := Lib.hid (HN.out.later HT3.out)
        refine hK.out _ _ _ hS3 ?_
        clear hK K hS0
        try simp only [List.setIfInBounds_toArray, List.set_cons_zero, List.set_cons_succ]
        refine drawn_any [10] (by kernel_rfl) (by simp) ?_
        refine drawn_cons rfl (fun K hK => ?_) drawn_nil
        refine put_app Try.underlying28 file_info15 file_zero15 (by omega) _ HN3.out.own [(pn, (fb.take M, M))] HX.out (by rw [HLN.out]; simp only [List.length_cons, List.length_nil]; omega) ?_
        intro A2 n2 c2 w3 ho ht hn2
        have HN4 := Lib.hid (HN3.out.step ho ht hn2)
        have hS4 : Turn (fun k => (Value.slice B4 i d4).ownBlock = some k) w1 w3 := hS3.trans ht (fun _ _ e => e)
        clear ho ht hn2
        refine hK.out _ _ _ hS4 ?_
        clear hK K hS3
        try simp only [List.setIfInBounds_toArray, List.set_cons_zero, List.set_cons_succ]
        refine drawn_last1 11 4 (.slice A2 n2 c2) rfl rfl (by kernel_rfl) (by kernel_rfl) (by rfl) (by intro w; go_simp) hS4 ?_
        try simp only [List.setIfInBounds_toArray, List.set_cons_zero, List.set_cons_succ]
        clear hS4
        go_wp2
        go_roundw
        case rel => exact ⟨i + 1, by go_num, hlt, by rw [HTK.out, HCU.out]; exact HN4.out⟩
        case measure => simp [intOf]; omega
      · have hk2 : keep < 0 := by omega
        have hMs := HSN.out hk2
        subst hMs
        go_wp2_with fail
        rw [← HW1.out, ← HBB.out]
        have HNB : Hid (¬ (Value.slice B4 i d4).ownBlock = some b) := fun e => by have h1 := HN.out.own.lt e; have h2 := HBB.out; omega
        have HNN : Hid (∀ k, (Value.slice B4 i d4).ownBlock = some k → w.heap.size ≤ k) := HN.out.new
        refine drawn_region (fun W => Turn (fun k => (Value.slice B4 i d4).ownBlock = some k) w1 W) [] (by kernel_rfl) ?_
        have HTD : Hid (Turn (fun _ => False) w1 (World.drew w1)) := (Turn.refl _ w1).drew
        have hS0 : Turn (fun k => (Value.slice B4 i d4).ownBlock = some k) w1 (World.drew w1) := HTD.out.mono (fun _ _ f => f.elim)
        generalize World.drew w1 = wd at *
        refine drawn_take 0 39 (.slice B4 i d4) rfl rfl (by kernel_rfl) (by kernel_rfl) (by kernel_rfl) (by kernel_rfl) (fun _ _ _ h => h) (by rfl) (by assumption) (by intro w hSw; obtain hS1 := hSw; go_simp) ?_
        try simp only [List.setIfInBounds_toArray, List.set_cons_zero, List.set_cons_succ]
        refine drawn_take 1 40 (.pointer (some ⟨b, 0, none⟩)) rfl rfl (by kernel_rfl) (by kernel_rfl) (by kernel_rfl) (by kernel_rfl) (fun _ _ _ h => h) (by rfl) (by assumption) (by intro w hSw; obtain hS1 := hSw; go_simp) ?_
        try simp only [List.setIfInBounds_toArray, List.set_cons_zero, List.set_cons_succ]
        refine drawn_take 2 41 (sv15 pn) rfl rfl (by kernel_rfl) (by kernel_rfl) (by kernel_rfl) (by kernel_rfl) (fun _ _ _ h => h) (by rfl) (by assumption) (by intro w hSw; have a0 := (HB1.out.turn hSw HNB.out).cell 0; clear hSw; go_simp) ?_
        try simp only [List.setIfInBounds_toArray, List.set_cons_zero, List.set_cons_succ]
        refine drawn_take 3 42 (.pointer (some ⟨b, 1, none⟩)) rfl rfl (by kernel_rfl) (by kernel_rfl) (by kernel_rfl) (by kernel_rfl) (fun _ _ _ h => h) (by rfl) (by assumption) (by intro w hSw; obtain hS1 := hSw; go_simp) ?_
        try simp only [List.setIfInBounds_toArray, List.set_cons_zero, List.set_cons_succ]
        refine drawn_take 4 43 (sv15 fb) rfl rfl (by kernel_rfl) (by kernel_rfl) (by kernel_rfl) (by kernel_rfl) (fun _ _ _ h => h) (by rfl) (by assumption) (by intro w hSw; have a1 := (HB1.out.turn hSw HNB.out).cell 1; clear hSw; go_simp) ?_
        try simp only [List.setIfInBounds_toArray, List.set_cons_zero, List.set_cons_succ]
        refine drawn_take 5 44 (.int .i64 (M : Int)) rfl rfl (by kernel_rfl) (by kernel_rfl) (by kernel_rfl) (by kernel_rfl) (fun _ _ _ h => h) (by rfl) (by assumption) (by intro w hSw; obtain hS1 := hSw; go_simp) ?_
        try simp only [List.setIfInBounds_toArray, List.set_cons_zero, List.set_cons_succ]
        refine drawn_take 6 45 (sv15 (fb.take M)) rfl rfl (by kernel_rfl) (by kernel_rfl) (by kernel_rfl) (by kernel_rfl) (fun _ _ _ h => h) (by rfl) (by assumption) (by intro w hSw; have hst := str_take15 fb M; have hM := HST.out; clear hSw; go_simp) ?_
        try simp only [List.setIfInBounds_toArray, List.set_cons_zero, List.set_cons_succ]
        refine drawn_take 7 46 (.int .i64 (M : Int)) rfl rfl (by kernel_rfl) (by kernel_rfl) (by kernel_rfl) (by kernel_rfl) (fun _ _ _ h => h) (by rfl) (by assumption) (by intro w hSw; obtain hS1 := hSw; go_simp) ?_
        try simp only [List.setIfInBounds_toArray, List.set_cons_zero, List.set_cons_succ]
        refine drawn_take 8 47 (.agg #[sv15 pn, sv15 (fb.take M), .int .i64 (M : Int)]) rfl rfl (by kernel_rfl) (by kernel_rfl) (by kernel_rfl) (by kernel_rfl) (fun _ _ _ h => h) (by rfl) (by assumption) (by intro w hSw; obtain hS1 := hSw; go_simp) ?_
        try simp only [List.setIfInBounds_toArray, List.set_cons_zero, List.set_cons_succ]
        refine drawn_any [9] (by kernel_rfl) (by simp) ?_
        refine drawn_cons rfl (fun K hK => ?_) drawn_nil
        go_simp
        have HX := Lib.hid (one_row E15 69 wd (pn, (fb.take M, M)))
        have HT3 : Hid (Turn (fun _ => False) wr (wd.alloc (.cells (E15.enc (pn, (fb.take M, M))).toArray 69))) := (HT1.out.trans HTD.out (fun _ _ f => f)).alloc _
        have hS3 : Turn (fun k => (Value.slice B4 i d4).ownBlock = some k) w1 (wd.alloc (.cells (E15.enc (pn, (fb.take M, M))).toArray 69)) := (HTD.out.alloc _).mono (fun _ _ f => f.elim)
        have HN3 := Lib.hid (HN.out.later HT3.out)
        refine hK.out _ _ _ hS3 ?_
        clear hK K hS0
        try simp only [List.setIfInBounds_toArray, List.set_cons_zero, List.set_cons_succ]
        refine drawn_any [10] (by kernel_rfl) (by simp) ?_
        refine drawn_cons rfl (fun K hK => ?_) drawn_nil
        refine put_app Try.underlying28 file_info15 file_zero15 (by omega) _ HN3.out.own [(pn, (fb.take M, M))] HX.out (by rw [HLN.out]; simp only [List.length_cons, List.length_nil]; omega) ?_
        intro A2 n2 c2 w3 ho ht hn2
        have HN4 := Lib.hid (HN3.out.step ho ht hn2)
        have hS4 : Turn (fun k => (Value.slice B4 i d4).ownBlock = some k) w1 w3 := hS3.trans ht (fun _ _ e => e)
        clear ho ht hn2
        refine hK.out _ _ _ hS4 ?_
        clear hK K hS3
        try simp only [List.setIfInBounds_toArray, List.set_cons_zero, List.set_cons_succ]
        refine drawn_last1 11 4 (.slice A2 n2 c2) rfl rfl (by kernel_rfl) (by kernel_rfl) (by rfl) (by intro w; go_simp) hS4 ?_
        try simp only [List.setIfInBounds_toArray, List.set_cons_zero, List.set_cons_succ]
        clear hS4
        go_wp2
        go_roundw
        case rel => exact ⟨i + 1, by go_num, hlt, by rw [HTK.out, HCU.out]; exact HN4.out⟩
        case measure => simp [intOf]; omega
    · obtain rfl : i = d.l.length := by omega
      have hbx := HM.out.box.turn HN.out.turn (fun f => f)
      have c1 := hbx.cell 1; have c2 := hbx.cell 2; have f0 := hbx.free 0; have f1 := hbx.free 1; have f2 := hbx.free 2
      have hb3 := ((hbx.set 0 (.slice B4 d.l.length d4)).set 1 (.int .i64 0)).set 2 (.bool false)
      simp only [List.setIfInBounds_toArray, List.set_cons_succ, List.set_cons_zero] at hb3
      have HB3 := Lib.hid hb3
      have HTS : Hid (Turn (fun k => k = g) wr (((wr.setCell ⟨g, 0, none⟩ (.slice B4 d.l.length d4)).setCell ⟨g, 1, none⟩ (.int .i64 0)).setCell ⟨g, 2, none⟩ (.bool false))) := (((Turn.refl (fun k => k = g) wr).setCell (p := ⟨g, 0, none⟩) (fun _ => rfl) _).setCell (p := ⟨g, 1, none⟩) (fun _ => rfl) _).setCell (p := ⟨g, 2, none⟩) (fun _ => rfl) _
      have HNE : Hid ((Value.slice B4 d.l.length d4).ownBlock ≠ some g) := fun e => by have h1 := HN.out.new g e; have h2 := HM.out.box.lt; omega
      have HR : Hid (RdE E15 wr (.slice B4 d.l.length d4) (d.l.map fun p => (p.1, cut15 keep p.2))) := by have h := HN.out.own.rd; rw [List.take_length] at h; exact h
      have HNN : Hid (∀ k, (Value.slice B4 d.l.length d4).ownBlock = some k → w.heap.size ≤ k) := HN.out.new
      have HNL : Hid (∀ k, (Value.slice B4 d.l.length d4).ownBlock = some k → k < wr.heap.size) := fun k hk => HN.out.own.lt hk
      have HTW := Lib.hid HN.out.turn
      clear hbx hb3
      go_wp2
      go_end0
      exact ⟨rfl, .slice B4 d.l.length d4, ⟨HB3.out, HR.out.turn HTS.out (fun k hk e => HNE.out (by rw [hk, e])), HNE.out, fun k hk => Nat.lt_of_lt_of_le (HNL.out k hk) HTS.out.size⟩, (HTW.out.mono (fun _ _ f => f.elim)).trans HTS.out (fun _ _ e => e), HNN.out⟩

end Go.Proofs.Ytclljogbingjiaa

/-
  A slice of elements of any size that came in. No type is named here.
-/
namespace Go.Proofs.Ytclljogbingjiaa
open Go.RowKit Go.ChangeShapes Go.WideShapes Go.Deep

theorem open_elems {P : Program} {H X : Type} [Inhabited X] {enc : TypeId × Value → H} {W : World} {T e : TypeId} (E : El X) (ok : X → Prop) {v : Value} {d : DataW H} {p : List MemPlace} {a : Option Addr} {len cap : Nat}
    (hT : P.underlying T = some (.slice e)) (hC : P.cellsOf e = E.sz) (hv : v = .slice a len cap) (h : DataW.Trod enc P W 0 (fun _ => true) true T v d p)
    (one : ∀ (n : Nat) (cs : List Value) (y : DataW H × List MemPlace), cs.length = E.sz → DataW.trod enc P W 0 (fun _ => true) true n e cs = some y → ∃ x, cs = E.enc x ∧ ok x) :
    ∃ l : List X, RdE E W v l ∧ l.length ≤ maxLen ∧ ∀ x ∈ l, ok x := by
  subst hv
  obtain ⟨fuel, hf⟩ := h
  rcases open_slice hT hf with ⟨hcs, _⟩ | ⟨a', len', cap', m, n, D, Pl, hcs, _, hl, hm, hmm, _, hx⟩
  · simp [Value.cells] at hcs
    obtain ⟨rfl, rfl, rfl⟩ := hcs
    exact ⟨[], RdE.nil W, Nat.zero_le _, fun x hx => by cases hx⟩
  · simp [Value.cells] at hcs
    obtain ⟨rfl, rfl, rfl⟩ := hcs
    have hmm' : m = cap := by simpa using hmm
    subst hmm'
    have key : ∀ i, i < len → ∃ x : X, (∀ j u, (E.enc x)[j]? = some u → W.cell? (a'.add (i * E.sz + j)) = some u) ∧ ok x := by
      intro i hi
      obtain ⟨cs, h1, h2⟩ := hx i (by omega)
      rw [hC] at h1
      obtain ⟨_, hlen, hcell⟩ := World.cells?_some h1
      obtain ⟨x, rfl, hok⟩ := one _ _ _ hlen h2
      refine ⟨x, fun j u hj => ?_, hok⟩
      have hjl : j < E.sz := by
        have := (List.getElem?_eq_some_iff.1 hj).1
        rwa [E.len] at this
      have hc := hcell j hjl
      rw [eadd_add] at hc
      rw [hc]
      exact hj
    obtain ⟨V, hV⟩ := choose_lt key
    have hll : ((List.range len).map V).length = len := by simp
    refine ⟨(List.range len).map V, ⟨some a', m, by rw [hll], ⟨by rw [hll]; omega, by omega⟩, (fun e => by cases e), fun ad e i u hi => ?_⟩, by rw [hll]; omega, fun x hx => ?_⟩
    · cases e
      have hil : i < len * E.sz := by
        have := (List.getElem?_eq_some_iff.1 hi).1
        rwa [E.flat_len, hll] at this
      have hs : 0 < E.sz := by
        rcases Nat.eq_zero_or_pos E.sz with c | c
        · rw [c] at hil; simp at hil
        · exact c
      have hq : i / E.sz < len := (Nat.div_lt_iff_lt_mul hs).2 hil
      have hr : i % E.sz < E.sz := Nat.mod_lt _ hs
      have hi2 : i = i / E.sz * E.sz + i % E.sz := by rw [Nat.mul_comm]; exact (Nat.div_add_mod i E.sz).symm
      have hVi : ((List.range len).map V)[i / E.sz]? = some (V (i / E.sz)) := by rw [List.getElem?_map, List.getElem?_range hq]; rfl
      rw [hi2, E.flat_at hVi hr] at hi
      have := (hV _ hq).1 _ _ hi
      rw [← hi2] at this
      exact this
    · obtain ⟨i, hi, rfl⟩ := List.mem_map.1 hx
      exact (hV i (List.mem_range.1 hi)).2

end Go.Proofs.Ytclljogbingjiaa

/-
  Plain: a thing put where it belongs, once: lists that rise. No type is named.
-/
namespace Go.Proofs.Ytclljogbingjiaa

section
variable {A : Type} (lt : A → A → Bool)
/-- How many stand below h at the head. -/
def posG (h : A) : List A → Nat
  | [] => 0
  | x :: t => if lt x h = true then posG h t + 1 else 0
theorem posG_le (h : A) : ∀ l, posG lt h l ≤ l.length
  | [] => Nat.le_refl _
  | x :: t => by
    unfold posG
    split
    · have := posG_le h t
      simp only [List.length_cons]
      omega
    · exact Nat.zero_le _
theorem posG_at (h : A) : ∀ (l : List A) (i : Nat) (y : A), l[i]? = some y → i < posG lt h l → lt y h = true
  | [], i, y, hy, _ => by simp at hy
  | x :: t, i, y, hy, hi => by
    unfold posG at hi
    split at hi
    · rename_i hx
      cases i with
      | zero =>
        have e : x = y := by simpa using hy
        rw [← e]; exact hx
      | succ i => exact posG_at h t i y (by simpa using hy) (by omega)
    · omega
theorem posG_end (h : A) : ∀ (l : List A) (y : A), l[posG lt h l]? = some y → lt y h = false
  | [], y, hy => by simp [posG] at hy
  | x :: t, y, hy => by
    unfold posG at hy
    split at hy
    · exact posG_end h t y (by simpa using hy)
    · rename_i hx
      have e : x = y := by simpa using hy
      rw [← e]; simpa using hx
end
section
variable {A : Type} [DecidableEq A] (lt : A → A → Bool)
/-- A thing put where it belongs, once. -/
def insG (h : A) (l : List A) : List A := if l[posG lt h l]? = some h then l else l.take (posG lt h l) ++ h :: l.drop (posG lt h l)
/-- All things of a list: each once, rising. -/
def setG (l : List A) : List A := l.foldl (fun out x => insG lt x out) []
theorem insG_len (h : A) (l : List A) : (insG lt h l).length ≤ l.length + 1 := by
  unfold insG
  split
  · omega
  · rw [List.length_append, List.length_cons, List.length_take, List.length_drop]
    have := posG_le lt h l
    omega
theorem setG_snoc (l : List A) (x : A) : setG lt (l ++ [x]) = insG lt x (setG lt l) := by
  unfold setG
  rw [List.foldl_append]
  rfl
theorem setG_take {l : List A} {i : Nat} {x : A} (h : l[i]? = some x) : setG lt (l.take (i + 1)) = insG lt x (setG lt (l.take i)) := by
  obtain ⟨h0, e⟩ := List.getElem?_eq_some_iff.1 h
  rw [List.take_succ_eq_append_getElem h0, e, setG_snoc]
theorem setG_len (l : List A) : ∀ i, (setG lt (l.take i)).length ≤ i
  | 0 => by simp [setG]
  | i + 1 => by
    have ih := setG_len l i
    cases h : l[i]? with
    | none => rw [List.take_of_length_le (by have := List.getElem?_eq_none_iff.1 h; omega)]; rw [List.take_of_length_le (by have := List.getElem?_eq_none_iff.1 h; omega)] at ih; omega
    | some x =>
      rw [setG_take lt h]
      have := insG_len lt x (setG lt (l.take i))
      omega
theorem insG_mem (h : A) (l : List A) (x : A) : x ∈ insG lt h l ↔ x = h ∨ x ∈ l := by
  unfold insG
  split
  · rename_i hp
    exact ⟨fun hx => .inr hx, fun hx => hx.elim (fun e => by rw [e]; exact List.mem_of_getElem? hp) id⟩
  · constructor
    · intro hx
      rcases List.mem_append.1 hx with hx | hx
      · exact .inr (List.mem_of_mem_take hx)
      · rcases List.mem_cons.1 hx with hx | hx
        · exact .inl hx
        · exact .inr (List.mem_of_mem_drop hx)
    · intro hx
      rcases hx with rfl | hx
      · exact List.mem_append_right _ (List.mem_cons_self ..)
      · rw [← List.take_append_drop (posG lt h l) l] at hx
        rcases List.mem_append.1 hx with hx | hx
        · exact List.mem_append_left _ hx
        · exact List.mem_append_right _ (List.mem_cons_of_mem _ hx)
theorem insG_rises (hr : Rises lt) (h : A) (l : List A) (hl : l.Pairwise fun x y => lt x y = true) : (insG lt h l).Pairwise fun x y => lt x y = true := by
  unfold insG
  split
  · exact hl
  · rename_i hp
    have ple := posG_le lt h l
    have pat := posG_at lt h l
    have pend := posG_end lt h l
    generalize posG lt h l = p at *
    rw [List.pairwise_append, List.pairwise_cons]
    have ha : ∀ y ∈ l.drop p, lt h y = true := fun y hy => by
      obtain ⟨i, hi, e⟩ := List.getElem_of_mem hy
      have hi2 : p + i < l.length := by rw [List.length_drop] at hi; omega
      rw [List.getElem_drop] at e
      have hpl : p < l.length := by omega
      have h1 := pend l[p] (List.getElem?_eq_getElem hpl)
      have h2 : l[p] ≠ h := fun e => hp (by rw [List.getElem?_eq_getElem hpl, e])
      have h3 : lt h l[p] = true := hr.tot _ _ h2 h1
      by_cases ei : i = 0
      · subst ei
        rw [← e]
        exact h3
      · have h4 := List.pairwise_iff_getElem.1 hl p (p + i) hpl hi2 (by omega)
        rw [e] at h4
        exact hr.tr _ _ _ h3 h4
    have hb : ∀ x ∈ l.take p, lt x h = true := fun x hx => by
      obtain ⟨i, hi, e⟩ := List.getElem_of_mem hx
      have hi2 : i < p := by rw [List.length_take] at hi; omega
      rw [List.getElem_take] at e
      exact pat i x (by rw [List.getElem?_eq_getElem (by omega), e]) hi2
    refine ⟨hl.sublist (List.take_sublist _ _), ⟨ha, hl.sublist (List.drop_sublist _ _)⟩, fun x hx y hy => ?_⟩
    rcases List.mem_cons.1 hy with rfl | hy
    · exact hb x hx
    · exact hr.tr _ _ _ (hb x hx) (ha y hy)
theorem setG_is (hr : Rises lt) (l : List A) : ((setG lt l).Pairwise fun x y => lt x y = true) ∧ ∀ x, x ∈ setG lt l ↔ x ∈ l := by
  have key : ∀ (m acc : List A), (acc.Pairwise fun x y => lt x y = true) → ((m.foldl (fun out x => insG lt x out) acc).Pairwise fun x y => lt x y = true) ∧ ∀ x, x ∈ m.foldl (fun out x => insG lt x out) acc ↔ x ∈ m ∨ x ∈ acc := by
    intro m
    induction m with
    | nil => intro acc h; exact ⟨h, fun x => by simp⟩
    | cons f m ih =>
      intro acc h
      obtain ⟨h1, h2⟩ := ih (insG lt f acc) (insG_rises lt hr _ _ h)
      refine ⟨h1, fun x => ?_⟩
      rw [List.foldl_cons, h2 x, insG_mem, List.mem_cons]
      constructor
      · rintro (h | h | h)
        · exact .inl (.inr h)
        · exact .inl (.inl h)
        · exact .inr h
      · rintro ((h | h) | h)
        · exact .inr (.inl h)
        · exact .inl h
        · exact .inr (.inr h)
  obtain ⟨h1, h2⟩ := key l [] List.Pairwise.nil
  exact ⟨h1, fun x => by unfold setG; rw [h2 x]; simp⟩
end
/-- The place of a thing; as many as there are: it has none. -/
def idxG {A : Type} [DecidableEq A] (x : A) : List A → Nat
  | [] => 0
  | y :: t => if y = x then 0 else idxG x t + 1
theorem idxG_le {A : Type} [DecidableEq A] (x : A) : ∀ l : List A, idxG x l ≤ l.length
  | [] => Nat.le_refl _
  | y :: t => by
    unfold idxG
    split
    · exact Nat.zero_le _
    · have := idxG_le x t; simp only [List.length_cons]; omega
theorem idxG_at {A : Type} [DecidableEq A] {x : A} : ∀ {l : List A} {i : Nat}, idxG x l = i → i < l.length → l[i]? = some x
  | [], i, _, h => absurd h (Nat.not_lt_zero i)
  | y :: t, i, h, hi => by
    unfold idxG at h
    split at h
    · rename_i e
      subst h e
      rfl
    · subst h
      rw [List.getElem?_cons_succ]
      exact idxG_at rfl (by simp only [List.length_cons] at hi; omega)
theorem idxG_below {A : Type} [DecidableEq A] {x : A} : ∀ {l : List A} {i : Nat} {y : A}, i < idxG x l → l[i]? = some y → y ≠ x
  | [], i, y, _, h => by simp at h
  | z :: t, i, y, hi, h => by
    unfold idxG at hi
    split at hi
    · exact absurd hi (Nat.not_lt_zero i)
    · rename_i e
      cases i with
      | zero =>
        have : z = y := by simpa using h
        rw [← this]; exact e
      | succ i => exact idxG_below (l := t) (i := i) (by omega) (by simpa using h)
theorem idxG_mem {A : Type} [DecidableEq A] {x : A} : ∀ {l : List A}, idxG x l < l.length ↔ x ∈ l
  | [] => by simp [idxG]
  | y :: t => by
    unfold idxG
    split
    · rename_i e
      subst e
      simp
    · rename_i e
      rw [List.length_cons, List.mem_cons]
      have := idxG_mem (x := x) (l := t)
      constructor
      · intro h; exact .inr (this.1 (by omega))
      · rintro (h | h)
        · exact absurd h.symm e
        · have := this.2 h; omega

end Go.Proofs.Ytclljogbingjiaa

/-
  Stage 10: texts in memory; the document's Code and Same.
-/
namespace Go.Proofs.Ytclljogbingjiaa
open Go.RowKit

set_option maxRecDepth 100000

/-- A text's cell. -/
def ET10 : El (List UInt8) where
  sz := 1
  enc s := [.string ⟨s.toArray⟩]
  len _ := rfl
  one s u hu := by rw [List.mem_singleton.1 hu]; rfl
theorem str_info10 : (Try.prog.info? 9).map (fun i => (i.zero, i.size, i.bytes)) = some (some (.string ⟨#[]⟩), ET10.sz, 16) := by kernel_rfl
theorem str_zero10 : (Value.cells (.string ⟨#[]⟩)).size = ET10.sz := rfl
abbrev sv10 (l : List UInt8) : Value := .string ⟨l.toArray⟩
theorem str_at10 {w : World} {A : Option Addr} {n c : Nat} {L : List (List UInt8)} (h : RdE ET10 w (.slice A n c) L) {j : Nat} {x : List UInt8} (hj : L[j]? = some x) :
    ∃ ad, A = some ad ∧ ∀ W, Turn (fun _ => False) w W → W.cell? (ad.add j) = some (sv10 x) := by
  obtain ⟨ad, hA, _⟩ := h.cells hj
  refine ⟨ad, hA, fun W ht => ?_⟩
  obtain ⟨ad', hA', hc⟩ := (h.later ht).cells hj
  rw [hA] at hA'
  cases hA'
  have h1 := hc 0 _ rfl
  rwa [show j * ET10.sz + 0 = j from by simp [ET10]] at h1

/-- The number of a text; -1: it has none. -/
def codeT (x : List UInt8) (l : List (List UInt8)) : Int := if idxG x l < l.length then (idxG x l : Int) else -1

set_option maxHeartbeats 4000000 in
theorem same_refl10 (a b : Value) (L : List (List UInt8)) (w : World) (ha : RdE ET10 w a L) (hb : RdE ET10 w b L) (hl : L.length ≤ 1000000) :
    Calls Try.prog 18 #[a, b] w fun e w' => e = .returned (.bool true) ∧ Turn (fun _ => False) w w' := by
  have HA := Lib.hid ha; have HB := Lib.hid hb
  obtain ⟨A, c, rfl⟩ := ha.shape
  obtain ⟨B, d, rfl⟩ := hb.shape
  clear ha hb
  go_enter Try.func18, Try.ntmps18
  go_wp2_with fail
  go_loopw [5] (fun x5 wr => ∃ i : Nat, x5 = .int .i64 (i : Int) ∧ i ≤ L.length ∧ ∃ n, wr = w.drewN n) (fun x5 _ => L.length - (intOf x5).toNat)
  case atStart => exact ⟨0, rfl, Nat.zero_le _, 0, rfl⟩
  case round =>
    obtain ⟨i, rfl, hi, n, rfl⟩ := hrel
    by_cases hlt : i < L.length
    · obtain ⟨x, hx⟩ : ∃ x, L[i]? = some x := ⟨_, List.getElem?_eq_getElem hlt⟩
      obtain ⟨ad, rfl, hc⟩ := str_at10 HA.out hx
      obtain ⟨bd, rfl, hd⟩ := str_at10 HB.out hx
      have e0 := hc w (Turn.refl _ _)
      have e2 := hd w (Turn.refl _ _)
      unfold sv10 at e0 e2
      have hee : (x == x) = true := beq_self_eq_true x
      clear hc hd hx
      have hil : (i : Int) < L.length := by omega
      go_wp2_with fail
      go_quiet (fail)
      go_wp2
      go_roundw
      case rel => exact ⟨i + 1, by go_num, hlt, n + nq, by simp [World.drewN]⟩
      case measure => simp [intOf]; omega
    · obtain rfl : i = L.length := by omega
      go_wp2
      go_ret
      exact ⟨rfl, (Turn.refl _ w).drewN _⟩

end Go.Proofs.Ytclljogbingjiaa

/-
  Stage 15: acts on a disk that came in; which are light; the document's names.
-/
namespace Go.Proofs.Ytclljogbingjiaa
open Go.RowKit Go.ChangeShapes Go.WideShapes Go.Deep

set_option maxRecDepth 100000

/-- An act: its kind, two names, bytes (a slice that came in), a number. -/
structure AC15 where
  kind : Int
  nm : List UInt8
  to : List UInt8
  A : Option Addr
  c : Nat
  b : List UInt8
  n : Int
instance : Inhabited AC15 := ⟨⟨0, [], [], none, 0, [], 0⟩⟩
abbrev AC15.sl (a : AC15) : Value := .slice a.A a.b.length a.c
abbrev acells15 (a : AC15) : Array Value := #[.int .i64 a.kind, sv15 a.nm, sv15 a.to, a.sl, .int .i64 a.n]
def EA15 : El AC15 where
  sz := 5
  enc a := [.int .i64 a.kind, sv15 a.nm, sv15 a.to, a.sl, .int .i64 a.n]
  len _ := rfl
  one a u hu := by
    simp only [List.mem_cons, List.not_mem_nil, or_false] at hu
    rcases hu with rfl | rfl | rfl | rfl | rfl <;> rfl
/-- What holds of an act that came in. -/
structure AcOk15 (W : World) (a : AC15) : Prop where
  kind : (Lit.int .i64 a.kind).wf = true
  n : (Lit.int .i64 a.n).wf = true
  nm : a.nm.length ≤ maxLen
  to : a.to.length ≤ maxLen
  b : Rd W a.sl a.b
  bl : a.b.length ≤ maxLen
theorem trod_struct5_15 {P : Program} {H : Type} {enc : TypeId × Value → H} {w : World} {base : Nat} {spare : Nat → Bool} {held : Bool} {t : TypeId} {f0 f1 f2 f3 f4 : Field} {fuel : Nat} {cs : List Value} {x : DataW H × List MemPlace} (ht : P.underlying t = some (.struct #[f0, f1, f2, f3, f4])) (h : DataW.trod enc P w base spare held fuel t cs = some x) :
    ∃ y0 y1 y2 y3 y4 n, DataW.trod enc P w base spare held n f0.type ((cs.drop f0.offset).take (P.cellsOf f0.type)) = some y0 ∧
      DataW.trod enc P w base spare held n f1.type ((cs.drop f1.offset).take (P.cellsOf f1.type)) = some y1 ∧ DataW.trod enc P w base spare held n f2.type ((cs.drop f2.offset).take (P.cellsOf f2.type)) = some y2 ∧
      DataW.trod enc P w base spare held n f3.type ((cs.drop f3.offset).take (P.cellsOf f3.type)) = some y3 ∧ DataW.trod enc P w base spare held n f4.type ((cs.drop f4.offset).take (P.cellsOf f4.type)) = some y4 := by
  obtain ⟨xs, n, _, rfl, hl, hlen, hf⟩ := DataW.trod_struct ht h
  match xs, hlen with
  | [y0, y1, y2, y3, y4], _ => exact ⟨y0, y1, y2, y3, y4, n, by simpa using hf 0 f0 rfl, by simpa using hf 1 f1 rfl, by simpa using hf 2 f2 rfl, by simpa using hf 3 f3 rfl, by simpa using hf 4 f4 rfl⟩
theorem open_bytes15 {H : Type} {enc : TypeId × Value → H} {W : World} {fuel : Nat} {cs : List Value} {x : DataW H × List MemPlace}
    (hf : DataW.trod enc Try.prog W 0 (fun _ => true) true fuel 32 cs = some x) : ∃ v l, cs = [v] ∧ Rd W v l ∧ l.length ≤ maxLen := by
  rcases open_slice Try.underlying32 hf with ⟨hcs, _⟩ | ⟨a', len, cap, m, n, D, Pl, hcs, _, hl, hm, hmm, _, hx⟩
  · exact ⟨_, [], hcs, Rd.none W, Nat.zero_le _⟩
  · have hC : Try.prog.cellsOf 5 = 1 := by kernel_rfl
    have hmm' : m = cap := by simpa using hmm
    subst hmm'
    have key : ∀ i, i < len → ∃ b : UInt8, W.cell? (a'.add i) = some (bv b) := by
      intro i hi
      obtain ⟨cs, h1, h2⟩ := hx i (by omega)
      rw [hC] at h1
      obtain ⟨_, hlen, hcell⟩ := World.cells?_some h1
      match cs, hlen with
      | [c0], _ =>
        obtain ⟨K, k0, _, kw⟩ := DataW.trod_int Try.underlying5 h2
        simp only [List.cons.injEq, and_true] at k0
        subst k0
        have hK : 0 ≤ K ∧ K ≤ 255 := by simpa [Lit.wf, IntKind.min, IntKind.max, IntKind.signed, IntKind.bits] using kw
        have hc := hcell 0 (by omega)
        simp only [Go.Deep.add_add] at hc
        refine ⟨UInt8.ofNat K.toNat, ?_⟩
        have e : bv (UInt8.ofNat K.toNat) = .int .u8 K := by
          unfold bv
          rw [UInt8.toNat_ofNat', Nat.mod_eq_of_lt (by omega), Int.toNat_of_nonneg hK.1]
        rw [e]
        have e2 : i * 1 + 0 = i := by omega
        simpa [e2] using hc
    obtain ⟨V, hV⟩ := choose_lt key
    have hll : ((List.range len).map V).length = len := by simp
    refine ⟨_, (List.range len).map V, hcs, ⟨some a', m, by rw [hll], ⟨by rw [hll]; omega, by omega⟩, (fun e => by cases e), fun ad e j b hj => ?_⟩, by rw [hll]; omega⟩
    cases e
    have hjl : j < len := by
      have := (List.getElem?_eq_some_iff.1 hj).1
      simpa using this
    have hb : b = V j := by
      rw [List.getElem?_map, List.getElem?_range hjl] at hj
      exact (Option.some.inj hj).symm
    rw [hb]
    exact hV j hjl
theorem open_act15 {H : Type} {enc : TypeId × Value → H} {W : World} (n : Nat) (cs : List Value) (y : DataW H × List MemPlace) (hl : cs.length = EA15.sz) (h : DataW.trod enc Try.prog W 0 (fun _ => true) true n 34 cs = some y) :
    ∃ x, cs = EA15.enc x ∧ AcOk15 W x := by
  obtain ⟨y0, y1, y2, y3, y4, n', g0, g1, g2, g3, g4⟩ := trod_struct5_15 Try.underlying34 h
  have e3 : Try.prog.cellsOf 3 = 1 := by kernel_rfl
  have e2 : Try.prog.cellsOf 32 = 1 := by kernel_rfl
  have e9 : Try.prog.cellsOf 9 = 1 := by kernel_rfl
  match cs, hl with
  | [c0, c1, c2, c3, c4], _ =>
    simp [e3, e2, e9] at g0 g1 g2 g3 g4
    obtain ⟨K, k0, _, kw⟩ := DataW.trod_int Try.underlying3 g0
    obtain ⟨S, k1, _, sw⟩ := DataW.trod_string Try.underlying9 g1
    obtain ⟨S2, k2, _, sw2⟩ := DataW.trod_string Try.underlying9 g2
    obtain ⟨v, l, k3, hr, hl3⟩ := open_bytes15 g3
    obtain ⟨M, k4, _, mw⟩ := DataW.trod_int Try.underlying3 g4
    simp only [List.cons.injEq, and_true] at k0 k1 k2 k3 k4
    subst k0 k1 k2 k3 k4
    obtain ⟨A, c, rfl⟩ := hr.shape
    exact ⟨⟨K, S.data.toList, S2.data.toList, A, c, l, M⟩, by simp [EA15], kw, mw, by show S.data.toList.length ≤ _; rw [Array.length_toList]; exact sw, by show S2.data.toList.length ≤ _; rw [Array.length_toList]; exact sw2, hr, hl3⟩
theorem open_acts15 {H : Type} {enc : TypeId × Value → H} {W : World} {v : Value} {d : DataW H} {p : List MemPlace} {a : Option Addr} {len cap : Nat} (hv : v = .slice a len cap)
    (h : DataW.Trod enc Try.prog W 0 (fun _ => true) true 22 v d p) : ∃ l : List AC15, RdE EA15 W v l ∧ l.length ≤ maxLen ∧ ∀ x ∈ l, AcOk15 W x :=
  open_elems EA15 (AcOk15 W) Try.underlying22 (by kernel_rfl) hv h open_act15
theorem act_at15 {w : World} {A : Option Addr} {n c : Nat} {L : List AC15} (h : RdE EA15 w (.slice A n c) L) {j : Nat} {a : AC15} (hj : L[j]? = some a) :
    ∃ ad, A = some ad ∧ ∀ W, Turn (fun _ => False) w W → W.cell? (ad.add (j * 5)) = some (.int .i64 a.kind) ∧ W.cell? ⟨(ad.add (j * 5)).block, (ad.add (j * 5)).off + 1, none⟩ = some (sv15 a.nm) ∧ W.cell? ⟨(ad.add (j * 5)).block, (ad.add (j * 5)).off + 2, none⟩ = some (sv15 a.to) ∧
      W.cell? ⟨(ad.add (j * 5)).block, (ad.add (j * 5)).off + 3, none⟩ = some a.sl ∧ W.cell? ⟨(ad.add (j * 5)).block, (ad.add (j * 5)).off + 4, none⟩ = some (.int .i64 a.n) := by
  obtain ⟨ad, hA, _⟩ := h.cells hj
  refine ⟨ad, hA, fun W ht => ?_⟩
  obtain ⟨ad', hA', hc⟩ := (h.later ht).cells hj
  rw [hA] at hA'
  cases hA'
  have key : ∀ (k : Nat) (u : Value), (EA15.enc a)[k + 1]? = some u → W.cell? ⟨(ad.add (j * 5)).block, (ad.add (j * 5)).off + (k + 1), none⟩ = some u := fun k u hu => by
    rw [show (⟨(ad.add (j * 5)).block, (ad.add (j * 5)).off + (k + 1), none⟩ : Addr) = (ad.add (j * 5)).add (k + 1) from rfl, eadd_add]
    exact hc (k + 1) u hu
  exact ⟨hc 0 _ rfl, key 0 _ rfl, key 1 _ rfl, key 2 _ rfl, key 3 _ rfl⟩

/-- Is an act short? -/
def short15 (a : AC15) : Bool := decide (a.nm.length ≤ 60) && decide (a.to.length ≤ 60) && decide (a.b.length ≤ 100)
def light15 (l : List AC15) : Bool := decide (l.length ≤ 100) && l.all short15
theorem light_long15 {l : List AC15} (h : ¬ l.length ≤ 100) : light15 l = false := by unfold light15; rw [decide_eq_false h]; rfl
theorem light_not15 {l : List AC15} {i : Nat} {a : AC15} (hi : l[i]? = some a) (h : short15 a = false) : light15 l = false := by
  unfold light15
  rw [Bool.and_eq_false_iff]
  right
  rw [List.all_eq_false]
  exact ⟨a, List.mem_of_getElem? hi, by rw [h]; decide⟩
theorem light_yes15 {l : List AC15} (h1 : l.length ≤ 100) (h : ∀ k a, k < l.length → l[k]? = some a → short15 a = true) : light15 l = true := by
  unfold light15
  rw [decide_eq_true h1, Bool.true_and, List.all_eq_true]
  intro a ha
  obtain ⟨k, hk, e⟩ := List.getElem_of_mem ha
  exact h k a hk (by rw [List.getElem?_eq_getElem hk, e])

set_option maxHeartbeats 4000000 in
theorem light_any15 (v : Value) (l : List AC15) (w : World) (hv : RdE EA15 w v l) (hl : l.length ≤ maxLen) (ho : ∀ a ∈ l, a.nm.length ≤ maxLen ∧ a.to.length ≤ maxLen ∧ a.b.length ≤ maxLen) :
    Calls Try.prog 7 #[v] w fun e w' => e = .returned (.bool (light15 l)) ∧ w' = w := by
  have HV := Lib.hid hv; have HO := Lib.hid ho
  obtain ⟨A, c, rfl⟩ := hv.shape
  unfold maxLen at hl
  clear hv ho
  by_cases h100 : l.length ≤ 100
  · have h100' : (l.length : Int) ≤ 100 := by omega
    go_enter Try.func7, Try.ntmps7
    go_wp2_with fail
    go_loopw [3] (fun x3 wr => wr = w ∧ ∃ i : Nat, x3 = .int .i64 (i : Int) ∧ i ≤ l.length ∧ ∀ k a, k < i → l[k]? = some a → short15 a = true) (fun x3 _ => l.length - (intOf x3).toNat)
    case atStart => exact ⟨rfl, 0, rfl, Nat.zero_le _, fun k a hk => absurd hk (Nat.not_lt_zero k)⟩
    case round =>
      obtain ⟨rfl, i, rfl, hi, he⟩ := hrel
      have HE := Lib.hid he
      clear he
      by_cases hlt : i < l.length
      · obtain ⟨a, ha⟩ : ∃ a, l[i]? = some a := ⟨_, List.getElem?_eq_getElem hlt⟩
        obtain ⟨ad, rfl, hc⟩ := act_at15 HV.out ha
        have hil : (i : Int) < l.length := by omega
        obtain ⟨-, x1, x2, x3, -⟩ := hc wr (Turn.refl _ _)
        have HA := Lib.hid ha
        obtain ⟨o1, o2, o3⟩ := HO.out a (List.mem_of_getElem? ha)
        unfold maxLen at o1 o2 o3
        obtain ⟨ak, an, at', aA, ac, ab, am⟩ := a
        dsimp only [AC15.sl] at x1 x2 x3 o1 o2 o3
        have hs1 : ByteArray.size ⟨an.toArray⟩ = an.length := rfl
        have hs2 : ByteArray.size ⟨at'.toArray⟩ = at'.length := rfl
        clear hc ha
        by_cases h1 : an.length ≤ 60
        · by_cases h2 : at'.length ≤ 60
          · by_cases h3 : ab.length ≤ 100
            · have g1 : ¬ ((60 : Int) < an.length) := by omega
              have g2 : ¬ ((60 : Int) < at'.length) := by omega
              have g3 : ¬ ((100 : Int) < ab.length) := by omega
              have HSH : Hid (short15 ⟨ak, an, at', aA, ac, ab, am⟩ = true) := by show _ = _; unfold short15; rw [decide_eq_true h1, decide_eq_true h2, decide_eq_true h3]; rfl
              clear h1 h2 h3 o1 o2 o3
              go_wp2
              go_roundw
              case rel => exact ⟨trivial, i + 1, by go_num, hlt, fun k a hk h => by
                rcases Nat.lt_or_ge k i with c | c
                · exact HE.out k a c h
                · obtain rfl : k = i := by omega
                  rw [HA.out] at h
                  cases h
                  exact HSH.out⟩
              case measure => simp [intOf]; omega
            · have g1 : ¬ ((60 : Int) < an.length) := by omega
              have g2 : ¬ ((60 : Int) < at'.length) := by omega
              have g3 : (100 : Int) < ab.length := by omega
              have HLN : Hid (light15 l = false) := light_not15 HA.out (by unfold short15; rw [decide_eq_false h3, Bool.and_false])
              clear h1 h2 h3 o1 o2 o3
              go_wp2
              go_ret
              exact ⟨by rw [HLN.out]; rfl, rfl⟩
          · have g1 : ¬ ((60 : Int) < an.length) := by omega
            have g2 : (60 : Int) < at'.length := by omega
            have HLN : Hid (light15 l = false) := light_not15 HA.out (by unfold short15; rw [decide_eq_false h2, Bool.and_false, Bool.false_and])
            clear h1 h2 o1 o2 o3
            go_wp2
            go_ret
            exact ⟨by rw [HLN.out]; rfl, rfl⟩
        · have g1 : (60 : Int) < an.length := by omega
          have HLN : Hid (light15 l = false) := light_not15 HA.out (by unfold short15; rw [decide_eq_false h1, Bool.false_and, Bool.false_and])
          clear h1 o1 o2 o3
          go_wp2
          go_ret
          exact ⟨by rw [HLN.out]; rfl, rfl⟩
      · obtain rfl : i = l.length := by omega
        have HLY : Hid (light15 l = true) := light_yes15 h100 HE.out
        go_wp2
        go_ret
        exact ⟨by rw [HLY.out]; rfl, rfl⟩
  · have h100' : ¬ ((l.length : Int) ≤ 100) := by omega
    have HLN : Hid (light15 l = false) := light_long15 h100
    go_enter Try.func7, Try.ntmps7
    go_wp2
    go_ret
    exact ⟨by rw [HLN.out]; rfl, rfl⟩

/-- Names laid in new memory. -/
def Names15 (w : World) (l : List (List UInt8)) (e : Ending) (w' : World) : Prop := ∃ v, e = .returned v ∧ RdE ET10 w' v l ∧ Turn (fun _ => False) w w'
set_option maxHeartbeats 4000000 in
theorem ref_names15 (g : Nat) (sl : Value) (d : D15) (w : World) (hm : RD15 w g sl d) (hl : d.l.length ≤ 10000) :
    Calls Try.prog 20 #[.pointer (some ⟨g, 0, none⟩)] w fun e w' => Names15 w (d.l.map (·.1)) e w' := by
  obtain ⟨A, c, rfl⟩ := hm.row.shape
  have HM := Lib.hid hm
  have HC0 : Hid (∀ W, Turn (fun _ => False) w W → W.cell? ⟨g, 0, none⟩ = some (.slice A d.l.length c)) := fun W ht => (hm.box.turn ht (fun f => f)).cell 0
  have hc0 := HC0.out w (Turn.refl _ _)
  have H0 : Hid (NewE ET10 9 w w (.slice none 0 0) ((d.l.take 0).map (·.1))) := ⟨OwE.nil _, (fun k e => by simp [Value.ownBlock] at e), Turn.refl _ _⟩
  clear hm
  go_enter Try.func20, Try.ntmps20
  go_wp2_with fail
  go_loopw [3, 4] (fun x3 x4 wr => ∃ i : Nat, x4 = .int .i64 (i : Int) ∧ i ≤ d.l.length ∧ NewE ET10 9 w wr x3 ((d.l.take i).map (·.1))) (fun _ x4 _ => d.l.length - (intOf x4).toNat)
  case atStart => exact ⟨0, rfl, Nat.zero_le _, H0.out⟩
  case round =>
    clear hc0 H0
    obtain ⟨i, rfl, hi, hn⟩ := hrel
    obtain ⟨B4, d4, e4⟩ := hn.own.shape
    have hln : ((d.l.take i).map (·.1)).length = i := by rw [List.length_map, List.length_take]; omega
    rw [hln] at e4
    subst e4
    have HN := Lib.hid hn
    have HLN := Lib.hid hln
    have hc0 := HC0.out wr hn.turn
    clear hn hln
    by_cases hlt : i < d.l.length
    · obtain ⟨p, hp⟩ : ∃ p, d.l[i]? = some p := ⟨_, List.getElem?_eq_getElem hlt⟩
      obtain ⟨ad, rfl, hc⟩ := file_at15 HM.out.row hp
      obtain ⟨x0, -, -⟩ := hc wr HN.out.turn
      have HTK : Hid ((d.l.take (i + 1)).map (·.1) = (d.l.take i).map (·.1) ++ [p.1]) := by show _ = _; rw [take_snoc15 hp, List.map_append]; rfl
      have hil : (i : Int) < d.l.length := by omega
      have HX := Lib.hid (one_row ET10 9 wr p.1)
      have HN3 := Lib.hid (HN.out.alloc (.cells (ET10.enc p.1).toArray 9))
      clear hc hp
      go_wp2_with (at_builtin; refine wpList_appE Try.underlying39 str_info10 str_zero10 _ rfl _ _ _ rfl _ _ rfl HN3.out.own _ rfl [p.1] (HX.out.src Try.underlying39) (by rw [HLN.out]; simp only [maxLen, List.length_cons, List.length_nil]; omega) (by rw [HLN.out]; simp only [List.length_cons, List.length_nil]; omega) ?_; intro A5 n5 c5 w5 ho ht hn; have HN5 := Lib.hid (HN3.out.step ho ht hn); clear ho ht hn)
      go_roundw
      case rel => exact ⟨i + 1, by go_num, hlt, by rw [HTK.out]; exact HN5.out⟩
      case measure => simp [intOf]; omega
    · obtain rfl : i = d.l.length := by omega
      have HR : Hid (RdE ET10 wr (.slice B4 d.l.length d4) (d.l.map (·.1))) := by have h := HN.out.own.rd; rw [List.take_length] at h; exact h
      have HTW := Lib.hid HN.out.turn
      go_wp2
      go_ret
      exact ⟨_, rfl, HR.out, HTW.out⟩

end Go.Proofs.Ytclljogbingjiaa

/-
  Plain: what is in a list of pairs behind a put; whether a key is there. No type is named here.
-/
namespace Go.Proofs.Ytclljogbingjiaa
open Go.RowKit

section
variable {K V : Type} [DecidableEq K] {lt : K → K → Bool}
theorem put_mem (hr : Rises lt) {k : K} {v : V} {p : K × V} : ∀ {L : List (K × V)} (_ : Up lt L), p ∈ putK lt L k v ↔ p = (k, v) ∨ (p ∈ L ∧ p.1 ≠ k)
  | [], _ => by rw [putK_nil]; simp
  | q :: L, hu => by
    have hu2 := up_cons.1 hu
    have ih := put_mem hr (k := k) (v := v) (p := p) hu2.2
    have habove : ∀ a, a ∈ L → lt q.1 a.1 = true := fun a ha => by
      obtain ⟨i, hi, e⟩ := List.mem_iff_getElem.1 ha
      exact hu2.1 i a (by rw [List.getElem?_eq_getElem hi, e])
    rw [putK_cons]
    by_cases h : lt q.1 k = true
    · rw [if_pos h, List.mem_cons, ih, List.mem_cons]
      constructor
      · rintro (e | e | ⟨h1, h2⟩)
        · subst e; exact .inr ⟨.inl rfl, fun e => by rw [e, hr.irr] at h; cases h⟩
        · exact .inl e
        · exact .inr ⟨.inr h1, h2⟩
      · rintro (e | ⟨e | h1, h2⟩)
        · exact .inr (.inl e)
        · exact .inl e
        · exact .inr (.inr ⟨h1, h2⟩)
    · rw [if_neg h]
      by_cases e : q.1 = k
      · rw [if_pos e, List.mem_cons, List.mem_cons]
        constructor
        · rintro (h1 | h1)
          · exact .inl h1
          · refine .inr ⟨.inr h1, fun e2 => ?_⟩
            have := habove p h1
            rw [e2, e, hr.irr] at this
            cases this
        · rintro (h1 | ⟨h1 | h1, h2⟩)
          · exact .inl h1
          · subst h1; exact absurd e h2
          · exact .inr h1
      · rw [if_neg e, List.mem_cons]
        have hk : lt k q.1 = true := hr.tot _ _ e (by simpa using h)
        constructor
        · rintro (h1 | h1)
          · exact .inl h1
          · refine .inr ⟨h1, fun e2 => ?_⟩
            rcases List.mem_cons.1 h1 with h3 | h3
            · subst h3; exact e e2
            · have := hr.tr _ _ _ hk (habove p h3)
              rw [e2, hr.irr] at this
              cases this
        · rintro (h1 | ⟨h1, _⟩)
          · exact .inl h1
          · exact .inr h1
theorem has_iff (hr : Rises lt) {L : List (K × V)} (hu : Up lt L) (k : K) : hasK lt L k = true ↔ ∃ p ∈ L, p.1 = k := by
  rw [hasK_mem hr hu]
  constructor
  · rintro ⟨i, p, h1, h2⟩
    exact ⟨p, List.mem_of_getElem? h1, h2⟩
  · rintro ⟨p, h1, h2⟩
    obtain ⟨i, hi, e⟩ := List.mem_iff_getElem.1 h1
    exact ⟨i, p, by rw [List.getElem?_eq_getElem hi, e], h2⟩
end

end Go.Proofs.Ytclljogbingjiaa

/-
  Stage 15, plain: what holds of a disk is kept by every call; how many files there may be; one act; a crash of one file (the law's words).
-/
namespace Go.Proofs.Ytclljogbingjiaa
open Go.RowKit

theorem drop_sub15 {V : Type} {L : List (List UInt8 × V)} {k : List UInt8} {p : List UInt8 × V} (h : p ∈ dropK ltN L k) : p ∈ L := by
  unfold dropK at h
  rcases List.mem_append.1 h with h | h
  · exact List.mem_of_mem_take h
  · exact List.mem_of_mem_drop h
theorem get_mem15 {V : Type} {L : List (List UInt8 × V)} {k : List UInt8} {v : V} (h : getK ltN L k = some v) : (k, v) ∈ L := by
  have h2 : hasK ltN L k = true := by rw [has_get, h]; rfl
  obtain ⟨u, hu, e⟩ := get_has15 h2
  rw [h] at e
  cases e
  exact List.mem_of_getElem? hu

theorem OkD15.new : OkD15 D15.new := ⟨up_nil, (fun p hp => nomatch hp), ⟨Int.le_refl 0, by show (0 : Int) ≤ _; decide⟩⟩
theorem cnt_left15 {d : D15} (h : 0 ≤ d.left ∧ d.left ≤ 9223372036854775807) : 0 ≤ (cnt15 d).left ∧ (cnt15 d).left ≤ 9223372036854775807 := by
  unfold cnt15
  split
  · exact h
  · exact ⟨by show 0 ≤ d.left - 1; omega, by show d.left - 1 ≤ _; omega⟩
theorem OkD15.cnt {d : D15} (h : OkD15 d) : OkD15 (cnt15 d) := ⟨by rw [cnt_l15]; exact h.up, by rw [cnt_l15]; exact h.files, cnt_left15 h.left⟩
theorem OkD15.put {d : D15} (h : OkD15 d) {n : List UInt8} {f : FB15} (h1 : f.2 ≤ f.1.length) (h2 : f.1.length ≤ 4194304) : OkD15 { d with l := putK ltN d.l n f } :=
  ⟨put_up15 h.up n f, fun p hp => by
    rcases (put_mem rises_bytes h.up).1 hp with e | ⟨e, _⟩
    · subst e; exact ⟨h1, h2⟩
    · exact h.files p e, h.left⟩
theorem OkD15.drop {d : D15} (h : OkD15 d) {n : List UInt8} : OkD15 { d with l := dropK ltN d.l n } :=
  ⟨drop_up rises_bytes h.up n, fun p hp => h.files p (drop_sub15 hp), h.left⟩
theorem OkD15.get {d : D15} (h : OkD15 d) {n : List UInt8} {f : FB15} (hf : getK ltN d.l n = some f) : f.2 ≤ f.1.length ∧ f.1.length ≤ 4194304 := h.files _ (get_mem15 hf)
theorem OkD15.file {d : D15} (h : OkD15 d) (n : List UInt8) : (file15 d n).2 ≤ (file15 d n).1.length ∧ (file15 d n).1.length ≤ 4194304 := by
  unfold file15
  cases e : getK ltN d.l n with
  | none => exact ⟨Nat.le_refl _, Nat.zero_le _⟩
  | some f => exact h.get e
theorem OkD15.app {d : D15} (h : OkD15 d) (n b : List UInt8) : OkD15 (app15 d n b).1 := by
  unfold app15
  split
  · exact h
  · split
    · exact h
    · split
      · exact h
      · rename_i h3
        have := h.file n
        refine OkD15.cnt (h.put ?_ ?_)
        · show (file15 d n).2 ≤ ((file15 d n).1 ++ b).length
          rw [List.length_append]; omega
        · show ((file15 d n).1 ++ b).length ≤ _
          rw [List.length_append]; omega
theorem OkD15.sync {d : D15} (h : OkD15 d) (n : List UInt8) : OkD15 (sync15 d n).1 := by
  unfold sync15
  split
  · exact h
  · split
    · exact h
    · rename_i f hf
      split
      · exact h.cnt
      · have := h.cnt.put (n := n) (f := (f.1, f.1.length)) (Nat.le_refl _) (h.get hf).2
        rw [cnt_l15] at this
        exact this
theorem OkD15.ren {d : D15} (h : OkD15 d) (n m : List UInt8) : OkD15 (ren15 d n m).1 := by
  unfold ren15
  split
  · exact h
  · split
    · exact h
    · split
      · exact h
      · rename_i f hf
        split
        · exact h.cnt
        · have := (h.cnt.drop (n := n)).put (n := m) (f := f) (h.get hf).1 (h.get hf).2
          rw [cnt_l15] at this
          exact this
theorem OkD15.rem {d : D15} (h : OkD15 d) (n : List UInt8) : OkD15 (rem15 d n).1 := by
  unfold rem15
  split
  · exact h
  · split
    · split
      · exact h.cnt
      · have := h.cnt.drop (n := n)
        rw [cnt_l15] at this
        exact this
    · exact h
theorem OkD15.arm {d : D15} (h : OkD15 d) {n : Int} (hn : n ≤ 9223372036854775807) : OkD15 (arm15 d n).1 := by
  unfold arm15
  split
  · exact h
  · split
    · exact h
    · exact ⟨h.up, h.files, by show 0 ≤ n; omega, hn⟩
theorem cut_len15 (keep : Int) (f : FB15) (h : f.2 ≤ f.1.length) : (cut15 keep f).1.length = stay15 keep f := by
  show (f.1.take (stay15 keep f)).length = _
  rw [List.length_take]
  exact Nat.min_eq_left (stay_le15 (keep := keep) h)
theorem OkD15.crash {d : D15} (h : OkD15 d) (keep : Int) : OkD15 (crash15 d keep) := by
  refine ⟨fun i j a b hij ha hb => ?_, fun p hp => ?_, ⟨Int.le_refl 0, by show (0 : Int) ≤ _; decide⟩⟩
  · unfold crash15 at ha hb
    rw [List.getElem?_map] at ha hb
    obtain ⟨a', ha', rfl⟩ := Option.map_eq_some_iff.1 ha
    obtain ⟨b', hb', rfl⟩ := Option.map_eq_some_iff.1 hb
    exact h.up i j a' b' hij ha' hb'
  · unfold crash15 at hp
    obtain ⟨q, hq, rfl⟩ := List.mem_map.1 hp
    have h1 := h.files q hq
    have h2 := stay_le15 (keep := keep) h1.1
    refine ⟨?_, ?_⟩
    · show stay15 keep q.2 ≤ (cut15 keep q.2).1.length
      rw [cut_len15 keep q.2 h1.1]
      exact Nat.le_refl _
    · show (cut15 keep q.2).1.length ≤ _
      rw [cut_len15 keep q.2 h1.1]
      omega

/-- One act. -/
def step15 (d : D15) (a : AC15) : D15 :=
  if a.kind = 0 then (app15 d a.nm a.b).1 else if a.kind = 1 then (sync15 d a.nm).1 else if a.kind = 2 then (ren15 d a.nm a.to).1 else if a.kind = 3 then (rem15 d a.nm).1
  else if a.kind = 5 then (arm15 d a.n).1 else if a.kind = 6 then crash15 d a.n else d
theorem OkD15.step {d : D15} (h : OkD15 d) {a : AC15} (hn : a.n ≤ 9223372036854775807) : OkD15 (step15 d a) := by
  unfold step15
  split
  · exact h.app _ _
  · split
    · exact h.sync _
    · split
      · exact h.ren _ _
      · split
        · exact h.rem _
        · split
          · exact h.arm hn
          · split
            · exact h.crash _
            · exact h
theorem put_has15 {V : Type} {L : List (List UInt8 × V)} {k : List UInt8} {v : V} (h : hasK ltN L k = true) : (putK ltN L k v).length = L.length := by
  rw [put_size, h]; rfl
theorem app_len15 (d : D15) (n b : List UInt8) : (app15 d n b).1.l.length ≤ d.l.length + 1 := by
  unfold app15
  split
  · exact Nat.le_succ _
  · split
    · exact Nat.le_succ _
    · split
      · exact Nat.le_succ _
      · show (cnt15 _).l.length ≤ _
        rw [cnt_l15]
        exact put_len _ _ _
theorem sync_len15 (d : D15) (n : List UInt8) : (sync15 d n).1.l.length = d.l.length := by
  unfold sync15
  split
  · rfl
  · split
    · rfl
    · rename_i f hf
      split
      · show (cnt15 d).l.length = _
        rw [cnt_l15]
      · show (putK ltN d.l n _).length = _
        exact put_has15 (by rw [has_get, hf]; rfl)
theorem ren_len15 (d : D15) (n m : List UInt8) : (ren15 d n m).1.l.length ≤ d.l.length := by
  unfold ren15
  split
  · exact Nat.le_refl _
  · split
    · exact Nat.le_refl _
    · split
      · exact Nat.le_refl _
      · rename_i f hf
        split
        · show (cnt15 d).l.length ≤ _
          rw [cnt_l15]
          exact Nat.le_refl _
        · show (putK ltN (dropK ltN d.l n) m f).length ≤ _
          have h1 := put_len (lt := ltN) (dropK ltN d.l n) m f
          have h2 := drop_size (lt := ltN) d.l n
          have h3 : hasK ltN d.l n = true := by rw [has_get, hf]; rfl
          rw [h3, if_pos rfl] at h2
          omega
theorem rem_len15 (d : D15) (n : List UInt8) : (rem15 d n).1.l.length ≤ d.l.length := by
  unfold rem15
  split
  · exact Nat.le_refl _
  · split
    · split
      · show (cnt15 d).l.length ≤ _
        rw [cnt_l15]
        exact Nat.le_refl _
      · exact drop_len _ _
    · exact Nat.le_refl _
theorem crash_len15 (d : D15) (keep : Int) : (crash15 d keep).l.length = d.l.length := List.length_map ..
theorem step_len15 (d : D15) (a : AC15) : (step15 d a).l.length ≤ d.l.length + 1 := by
  unfold step15
  split
  · exact app_len15 _ _ _
  · split
    · rw [sync_len15]; exact Nat.le_succ _
    · split
      · exact Nat.le_trans (ren_len15 _ _ _) (Nat.le_succ _)
      · split
        · exact Nat.le_trans (rem_len15 _ _) (Nat.le_succ _)
        · split
          · unfold arm15
            split
            · exact Nat.le_succ _
            · split
              · exact Nat.le_succ _
              · exact Nat.le_succ _
          · split
            · rw [crash_len15]; exact Nat.le_succ _
            · exact Nat.le_succ _

/-! What the crashes' law asks: one file by one name. -/
theorem one_put15 {V : Type} (k : List UInt8) (u v : V) : putK ltN [(k, u)] k v = [(k, v)] := by
  rw [putK_cons, if_neg (by show ¬ (Op.bytesLess k k = true); rw [less_irr]; exact Bool.false_ne_true), if_pos rfl]
theorem one_get15 {V : Type} (k : List UInt8) (v : V) : getK ltN [(k, v)] k = some v := by
  rw [getK_cons, if_neg (by show ¬ (Op.bytesLess k k = true); rw [less_irr]; exact Bool.false_ne_true), if_pos rfl]
theorem none_get15 {V : Type} (k : List UInt8) : getK ltN ([] : List (List UInt8 × V)) k = none := rfl
theorem none_put15 {V : Type} (k : List UInt8) (v : V) : putK ltN ([] : List (List UInt8 × V)) k v = [(k, v)] := rfl

/-- A disk with one file at most, by the name k: 'all' was put there, so many are safe. -/
def One15 (k : List UInt8) (d : D15) (i : Nat) (all : List UInt8) (safe : Nat) : Prop :=
  (if i = 0 then d.l = [] ∧ all = [] ∧ d.down = false else d.l = [(k, all, safe)]) ∧ safe ≤ all.length
theorem One15.app {k : List UInt8} (hk : named15 k = true) {d : D15} {i : Nat} {all : List UInt8} {safe : Nat} (h : One15 k d i all safe) (b : List UInt8) (hl : all.length + b.length ≤ 4194304) :
    One15 k (app15 d k b).1 (i + 1) (if d.down then all else all ++ b) safe := by
  obtain ⟨h1, h2⟩ := h
  unfold One15
  rw [if_neg (Nat.succ_ne_zero i)]
  cases hd : d.down with
  | true =>
    rw [if_pos rfl]
    have hi : i ≠ 0 := fun e => by rw [if_pos e] at h1; rw [h1.2.2] at hd; cases hd
    rw [if_neg hi] at h1
    unfold app15
    rw [if_pos hd]
    exact ⟨h1, h2⟩
  | false =>
    rw [if_neg Bool.false_ne_true]
    have hf : file15 d k = (all, safe) := by
      unfold file15
      by_cases hi : i = 0
      · rw [if_pos hi] at h1
        obtain ⟨e1, e2, _⟩ := h1
        subst e2
        rw [e1, none_get15]
        have : safe = 0 := Nat.le_zero.1 h2
        rw [this]
        rfl
      · rw [if_neg hi] at h1
        rw [h1, one_get15]
        rfl
    unfold app15
    rw [hd, if_neg Bool.false_ne_true, hk, if_neg Bool.noConfusion, hf, if_neg (by show ¬ (4194304 < all.length + b.length); omega)]
    refine ⟨?_, by rw [List.length_append]; omega⟩
    show (cnt15 _).l = _
    rw [cnt_l15]
    show putK ltN d.l k _ = _
    by_cases hi : i = 0
    · rw [if_pos hi] at h1
      rw [h1.1, none_put15]
    · rw [if_neg hi] at h1
      rw [h1, one_put15]
/-- A call that answered 'OK' leaves the disk up. -/
theorem app_ok15 {d : D15} {n b : List UInt8} (h : (app15 d n b).2 = 0) : d.down = false ∧ (app15 d n b).1.down = false := by
  unfold app15 at h ⊢
  cases hd : d.down with
  | true => rw [hd, if_pos rfl] at h; cases h
  | false =>
    rw [hd, if_neg Bool.false_ne_true] at h
    rw [if_neg Bool.false_ne_true]
    split
    · exact ⟨rfl, hd⟩
    · split
      · exact ⟨rfl, hd⟩
      · rename_i h1 h2
        rw [if_neg h1, if_neg h2] at h
        refine ⟨rfl, ?_⟩
        have hc : ∀ l : List (List UInt8 × FB15), (cnt15 ⟨l, d.left, false⟩).down = (cnt15 d).down := fun l => by
          unfold cnt15
          by_cases e : d.left = 0
          · rw [if_pos e, if_pos e]
            exact hd.symm
          · rw [if_neg e, if_neg e]
        refine (hc _).trans ?_
        cases hx : (cnt15 d).down with
        | false => rfl
        | true =>
          have h' : done15 (cnt15 d) = 0 := h
          unfold done15 at h'
          rw [hx, if_pos rfl] at h'
          cases h'
theorem One15.sync {k : List UInt8} {d : D15} {i : Nat} {all : List UInt8} {safe : Nat} (h : One15 k d (i + 1) all safe) :
    One15 k (sync15 d k).1 (i + 1) all (if (sync15 d k).2 = 0 then all.length else safe) := by
  obtain ⟨h1, h2⟩ := h
  rw [if_neg (Nat.succ_ne_zero i)] at h1
  have key : ∀ (x : D15 × Int), x.1.l = [(k, all, if x.2 = 0 then all.length else safe)] → One15 k x.1 (i + 1) all (if x.2 = 0 then all.length else safe) := fun x hx => by
    refine ⟨by rw [if_neg (Nat.succ_ne_zero i)]; exact hx, ?_⟩
    split
    · exact Nat.le_refl _
    · exact h2
  refine key _ ?_
  by_cases hd : d.down = true
  · have e : sync15 d k = (d, 13) := by unfold sync15; rw [if_pos hd]
    rw [e]
    exact h1
  · by_cases hx : (cnt15 d).down = true
    · have e : sync15 d k = (cnt15 d, 13) := by
        unfold sync15
        rw [if_neg hd, h1, one_get15]
        exact if_pos hx
      rw [e]
      show (cnt15 d).l = [(k, all, safe)]
      rw [cnt_l15, h1]
    · have e : sync15 d k = ({ cnt15 d with l := putK ltN d.l k (all, all.length) }, 0) := by
        unfold sync15
        rw [if_neg hd, h1, one_get15]
        exact if_neg hx
      rw [e]
      show putK ltN d.l k _ = [(k, all, all.length)]
      rw [h1, one_put15]
/-- Behind the crash: what is read, and what is loose. -/
theorem One15.crash {k : List UInt8} {d : D15} {i : Nat} {all : List UInt8} {safe : Nat} (h : One15 k d (i + 1) all safe) (keep : Int) :
    ∃ n, safe ≤ n ∧ n ≤ all.length ∧ crash15 d keep = ⟨[(k, all.take n, n)], 0, false⟩ := by
  obtain ⟨h1, h2⟩ := h
  rw [if_neg (Nat.succ_ne_zero i)] at h1
  refine ⟨stay15 keep (all, safe), ?_, stay_le15 (keep := keep) (f := (all, safe)) h2, ?_⟩
  · unfold stay15
    split
    · exact Nat.le_add_right _ _
    · exact Nat.le_refl _
  · unfold crash15
    rw [h1]
    rfl
theorem One15.none {k : List UInt8} {d : D15} {all : List UInt8} {safe : Nat} (h : One15 k d 0 all safe) (keep : Int) : crash15 d keep = D15.new := by
  obtain ⟨h1, h2⟩ := h
  rw [if_pos rfl] at h1
  unfold crash15
  rw [h1.1]
  rfl
theorem One15.new (k : List UInt8) : One15 k D15.new 0 [] 0 := ⟨by rw [if_pos rfl]; exact ⟨rfl, rfl, rfl⟩, Nat.le_refl _⟩
theorem One15.armed {k : List UInt8} {d : D15} {all : List UInt8} {safe : Nat} (h : One15 k d 0 all safe) (n : Int) : One15 k (arm15 d n).1 0 all safe := by
  unfold arm15
  split
  · exact h
  · split
    · exact h
    · exact h

end Go.Proofs.Ytclljogbingjiaa
