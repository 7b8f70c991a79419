
/-
  A frame taken by the document.
-/
import Derived.Test.YtjhgbbmghgeeoaaFc
namespace Go.Proofs.Ytjhgbbmghgeeoaa
open Go.RowKit

theorem takes_num (l : List UInt8) (n f k : Nat) (h : rdNum l = (n, f, k)) : takes l = if f ≠ 0 then ([], 0, f) else if 4194304 < n then ([], 0, 4) else if l.length < k + n + 4 then ([], 0, 3) else
    if (gets ((l.drop k).take (n + 4))).2 ≠ 0 then ([], 0, (gets ((l.drop k).take (n + 4))).2) else ((gets ((l.drop k).take (n + 4))).1, k + n + 4, 0) := by
  have e : rdCount 4194304 l = if f ≠ 0 then (0, f, k) else if 4194304 < n then (0, 4, k) else (n, 0, k) := by
    unfold rdCount
    rw [h]
  unfold takes
  rw [e]
  by_cases h1 : f ≠ 0
  · rw [if_pos h1, if_pos h1, if_pos h1]
  · rw [if_neg h1, if_neg h1]
    by_cases h2 : 4194304 < n
    · rw [if_pos h2, if_pos h2]
      rfl
    · rw [if_neg h2, if_neg h2]
      rfl

theorem xrd_at {w : World} {A : Option Addr} {c n : Nat} {l : List UInt8} (h : Rd w (.slice A n c) l) (h0 : 0 < l.length) :
    ∃ B, (Value.slice A n c).ownBlock = some B ∧ XRd (w.alloc (.cells #[.slice A n c, .int .i64 0] 49)) w.heap.size B A c l 0 := by
  obtain ⟨ad, rfl⟩ := h.some_at h0
  obtain ⟨x, hx⟩ : ∃ x, l[0]? = some x := ⟨_, List.getElem?_eq_getElem h0⟩
  obtain ⟨ad', e, hc⟩ := h.at hx
  cases e
  have hlt := World.block_lt_of_cell? w _ hc
  rw [add_block] at hlt
  obtain ⟨e1, h2, h3⟩ := h.fits
  subst e1
  refine ⟨ad.block, rfl, Box.new w _ _, h.later ((Turn.refl _ w).alloc _), ⟨fun g hg => ?_, by omega⟩, h2, h3⟩
  have : ad.block = g := by simpa [Value.ownBlock] using hg
  exact this.symm

set_option maxRecDepth 100000 in
set_option maxHeartbeats 2000000 in
theorem ref_take_at (Loc : Nat → Prop) (v : Value) (l : List UInt8) (w : World) (hv : Rd w v l) (h0 : 0 < l.length) (hl : l.length ≤ 1000000) (hloc : Hid (∀ k, v.ownBlock = some k → Loc k)) :
    Calls Try.prog 13 #[v] w (TakeAt Loc w l) := by
  have HV := Lib.hid hv
  obtain ⟨A, c, rfl, hcc, hxx⟩ := hv
  clear hxx hcc
  obtain ⟨B, hB, hx⟩ := xrd_at HV.out h0
  have HLC := Lib.hid (hloc.out B hB); clear hB
  have HX := Lib.hid (xnum_any _ B A c l _ hx)
  have HU := Lib.hid hx; clear hx
  obtain ⟨⟨n, f, k⟩, hr⟩ : ∃ r, r = rdNum l := ⟨_, rfl⟩
  have HTK := Lib.hid (takes_num l n f k hr.symm)
  have HN : Hid (n < 18446744073709551616) := by have := rdNum_lt l; rw [← hr] at this; exact this
  have hk : k ≤ l.length := by have := rdNum_long l; rw [← hr] at this; exact this
  have HXP : Hid (∀ W e W', XNum w.heap.size B l W e W' → Turn (fun _ => False) w W → e = .returned (.int .u64 n) ∧ ∃ A1 c1, XRd W' w.heap.size B A1 c1 (l.drop k) f ∧ Turn (fun _ => False) w W') := by
    rintro W e W' ⟨he, ⟨A1, c1, hx⟩, ht⟩ hw
    rw [← hr] at he hx
    exact ⟨he, A1, c1, hx, hw.fresh ht (fun k e => by rw [e]; omega)⟩
  clear hr
  have hdl : Hid ((l.drop k).length = l.length - k) := List.length_drop
  obtain ⟨m, hm⟩ : ∃ m, m = l.drop k := ⟨_, rfl⟩
  rw [← hm] at HTK HXP hdl
  have HDM : Hid (m = l.drop k) := hm
  clear hm
  have HT0 := Lib.hid ((Turn.refl (fun _ => False) w).alloc (.cells #[.slice A l.length c, .int .i64 0] 49))
  by_cases hf : f = 0
  · subst hf
    rw [if_neg (by simp)] at HTK
    by_cases hbig : 4194304 < n
    · rw [if_pos hbig] at HTK
      go_enter Try.func13, Try.ntmps13
      go_wp2_with (go_at_call 21; refine HX.out.mono ?_; intro e w1 hp; obtain ⟨rfl, A1, c1, hx1, ht⟩ := HXP.out _ _ _ hp HT0.out; have c0 : w1.cell? ⟨w.heap.size, 0, none⟩ = some (.slice A1 m.length c1) := hx1.1.cell 0; have cf : w1.cell? ⟨w.heap.size, 1, none⟩ = some (.int .i64 (0 : Nat)) := hx1.1.cell 1; have HX1 := Lib.hid hx1; have HT := Lib.hid ht; clear hp ht hx1)
      go_ret3
      exact take_end HTK.out (Rd.none _) nowhere rfl rfl HT.out
    · rw [if_neg hbig] at HTK
      have hn : n ≤ 4194304 := by omega
      have hcv : IntKind.i64.wrap (n : Int) = (n : Int) := IntWalk.i64_in _ (by omega)
      clear hbig HN
      by_cases hsh : l.length < k + n + 4
      · rw [if_pos hsh] at HTK
        have hsh2 : m.length < n + 4 := by rw [hdl.out]; omega
        clear hsh
        go_enter Try.func13, Try.ntmps13
        go_wp2_with (go_at_call 21; refine HX.out.mono ?_; intro e w1 hp; obtain ⟨rfl, A1, c1, hx1, ht⟩ := HXP.out _ _ _ hp HT0.out; have c0 : w1.cell? ⟨w.heap.size, 0, none⟩ = some (.slice A1 m.length c1) := hx1.1.cell 0; have cf : w1.cell? ⟨w.heap.size, 1, none⟩ = some (.int .i64 (0 : Nat)) := hx1.1.cell 1; have HX1 := Lib.hid hx1; have HT := Lib.hid ht; clear hp ht hx1)
        go_ret3
        exact take_end HTK.out (Rd.none _) nowhere rfl rfl HT.out
      · rw [if_neg hsh] at HTK
        have hsh2 : n + 4 ≤ m.length := by rw [hdl.out]; omega
        have hml : m.length ≤ 1000000 := by rw [hdl.out]; omega
        have HLK : Hid (l.length = m.length + k) := by show _ = _; rw [hdl.out]; omega
        clear hsh
        obtain ⟨x, hx⟩ : ∃ x, x = m.take (n + 4) := ⟨_, rfl⟩
        have HXL : Hid (x.length = n + 4) := by rw [hx, List.length_take]; exact Nat.min_eq_left hsh2
        have HFR : Hid (∀ W A1 c1, XRd W w.heap.size B A1 c1 m 0 → Rd W (.slice A1 (n + 4) c1) x) := fun W A1 c1 h => by rw [hx]; exact h.2.1.front _ hsh2
        have HBK : Hid (∀ W A1 c1, XRd W w.heap.size B A1 c1 m 0 → Hid (∀ k, (Value.slice A1 (n + 4) c1).ownBlock = some k → Loc k)) := fun W A1 c1 h k hk => by rw [h.2.2.1.1 k (by cases A1 <;> exact hk)]; exact HLC.out
        rw [← hx] at HTK
        clear hx
        obtain ⟨g, hg⟩ : ∃ g, g = gets x := ⟨_, rfl⟩
        have HGP : Hid (∀ W e W', GetAt Loc W x e W' → ∃ A c, e = .returned (.tuple #[.slice A g.1.length c, .int .i64 g.2]) ∧ Rd W' (.slice A g.1.length c) g.1 ∧ Turn (fun _ => False) W W' ∧ ∀ k, (Value.slice A g.1.length c).ownBlock = some k → Loc k) := by
          rintro W e W' ⟨v', he, hr, ht, hk⟩
          rw [← hg] at he hr
          obtain ⟨A, c, rfl⟩ := Rd.shape hr
          exact ⟨A, c, he, hr, ht, hk⟩
        rw [← hg] at HTK
        clear hg
        obtain ⟨⟨p, f2⟩, rfl⟩ : ∃ q, q = g := ⟨_, rfl⟩
        have HCP : Hid (∀ W A1 c1, XRd W w.heap.size B A1 c1 m 0 → m.length ≤ c1 ∧ c1 ≤ 9223372036854775807) := fun W A1 c1 h => by have := h.2.2.2; unfold maxLen at this; omega
        by_cases hg2 : f2 = 0
        · subst hg2
          rw [if_neg (by simp)] at HTK
          go_enter Try.func13, Try.ntmps13
          go_wp2_with (first
            | (go_at_call 21; refine HX.out.mono ?_; intro e w1 hp; obtain ⟨rfl, A1, c1, hx1, ht⟩ := HXP.out _ _ _ hp HT0.out; have c0 : w1.cell? ⟨w.heap.size, 0, none⟩ = some (.slice A1 m.length c1) := hx1.1.cell 0; have cf : w1.cell? ⟨w.heap.size, 1, none⟩ = some (.int .i64 (0 : Nat)) := hx1.1.cell 1; obtain ⟨hcm, hcc⟩ := HCP.out _ _ _ hx1; have HX1 := Lib.hid hx1; have HT := Lib.hid ht; clear hp ht hx1)
            | (go_at_call 22; refine (ref_get_at Loc _ x w1 (HFR.out _ _ _ HX1.out) (by rw [HXL.out]; omega) (HBK.out _ _ _ HX1.out)).mono ?_; intro e w2 hp; obtain ⟨A2, c2, rfl, hr2, ht2, hk2⟩ := HGP.out _ _ _ hp; have HK2 := Lib.hid hk2; clear hk2; have c3 : w2.cell? ⟨w.heap.size, 0, none⟩ = some (.slice A1 m.length c1) := (HX1.out.1.turn ht2 (fun f => f)).cell 0; have HR2 := Lib.hid hr2; have HT2 := Lib.hid ht2; clear hp hr2 ht2))
          go_quiet (fail)
          go_wp2
          go_ret3
          exact take_end HTK.out (HR2.out.later ((Turn.refl _ w2).drewN _)) HK2.out (by have := HLK.out; simp; omega) rfl ((HT.out.trans HT2.out (fun _ _ f => f)).drewN _)
        · have hf2 : (((f2 : Int) == 0) = false) := by rw [beq_eq_false_iff_ne]; omega
          have hf3 : (((f2 : Int) != 0) = true) := by rw [bne_iff_ne]; omega
          rw [if_pos hg2] at HTK
          clear hg2
          go_enter Try.func13, Try.ntmps13
          go_wp2_with (first
            | (go_at_call 21; refine HX.out.mono ?_; intro e w1 hp; obtain ⟨rfl, A1, c1, hx1, ht⟩ := HXP.out _ _ _ hp HT0.out; have c0 : w1.cell? ⟨w.heap.size, 0, none⟩ = some (.slice A1 m.length c1) := hx1.1.cell 0; have cf : w1.cell? ⟨w.heap.size, 1, none⟩ = some (.int .i64 (0 : Nat)) := hx1.1.cell 1; obtain ⟨hcm, hcc⟩ := HCP.out _ _ _ hx1; have HX1 := Lib.hid hx1; have HT := Lib.hid ht; clear hp ht hx1)
            | (go_at_call 22; refine (ref_get_at Loc _ x w1 (HFR.out _ _ _ HX1.out) (by rw [HXL.out]; omega) (HBK.out _ _ _ HX1.out)).mono ?_; intro e w2 hp; obtain ⟨A2, c2, rfl, hr2, ht2, hk2⟩ := HGP.out _ _ _ hp; have HK2 := Lib.hid hk2; clear hk2; have HR2 := Lib.hid hr2; have HT2 := Lib.hid ht2; clear hp hr2 ht2))
          go_ret3
          exact take_end HTK.out (Rd.none _) nowhere rfl rfl (HT.out.trans HT2.out (fun _ _ f => f))
  · have hf2 : (((f : Int) == 0) = false) := by rw [beq_eq_false_iff_ne]; omega
    have hf3 : (((f : Int) != 0) = true) := by rw [bne_iff_ne]; omega
    rw [if_pos hf] at HTK
    clear hf
    go_enter Try.func13, Try.ntmps13
    go_wp2_with (go_at_call 21; refine HX.out.mono ?_; intro e w1 hp; obtain ⟨rfl, A1, c1, hx1, ht⟩ := HXP.out _ _ _ hp HT0.out; have cf : w1.cell? ⟨w.heap.size, 1, none⟩ = some (.int .i64 f) := hx1.1.cell 1; have HX1 := Lib.hid hx1; have HT := Lib.hid ht; clear hp ht hx1)
    go_quiet (fail)
    go_wp2
    go_ret3
    exact take_end HTK.out (Rd.none _) nowhere rfl rfl (HT.out.drewN _)

theorem ref_take (v : Value) (l : List UInt8) (w : World) (hv : Rd w v l) (h0 : 0 < l.length) (hl : l.length ≤ 1000000) : Calls Try.prog 13 #[v] w (TakePost w l) :=
  (ref_take_at (fun _ => True) v l w hv h0 hl (fun _ _ => trivial)).mono fun _ _ h => h.post

end Go.Proofs.Ytjhgbbmghgeeoaa
