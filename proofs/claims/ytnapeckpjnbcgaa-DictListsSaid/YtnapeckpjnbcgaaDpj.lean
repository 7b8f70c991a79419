
/-
  Stage 10: the program's Join: the things of both laid one behind the other (slices.Grow, slices.Concat at texts).
-/
import Derived.Test.YtnapeckpjnbcgaaDpcs
import Derived.Test.YtnapeckpjnbcgaaDpds
import Derived.Lib.AppendZerosOnto
namespace Go.Proofs.Ytnapeckpjnbcgaa
open Go.RowKit

set_option maxRecDepth 100000

theorem all_any10 (d : Value) (L : List (List UInt8)) (w : World) (h : DV10 w d L) : Calls Try.prog 31 #[d] w fun e w' => (∃ v, e = .returned v ∧ RdE ET10 w v L) ∧ w = w' := by
  rcases h.out with ⟨rfl, rfl⟩ | ⟨d, g, sl, rfl, hb, hm, hr⟩
  · clear h
    go_enter Try.func31, Try.ntmps31
    go_wp2
    go_ret
    exact ⟨⟨_, rfl, RdE.nil _⟩, rfl⟩
  · have HR := Lib.hid hr
    obtain ⟨A, c, rfl⟩ := hr.shape
    have c1 := hb.cell 1
    clear h hb hm hr
    go_enter Try.func31, Try.ntmps31
    go_wp2
    go_ret
    exact ⟨⟨_, rfl, HR.out⟩, rfl⟩

/-- Behind Grow of nil: room, and nothing in it. -/
def Grown10 (w : World) (e : Ending) (w' : World) : Prop := ∃ v, e = .returned v ∧ NewE ET10 9 w w' v []

set_option maxHeartbeats 2000000 in
theorem grow_any10 (N : Nat) (hN : N ≤ 1000000) (w : World) : Calls Try.prog 46 #[.slice none 0 0, .int .i64 (N : Int)] w fun e w' => Grown10 w e w' := by
  by_cases h0 : N = 0
  · subst h0
    have HN : Hid (NewE ET10 9 w w (.slice none 0 0) []) := ⟨OwE.nil _, (fun k e => by simp [Value.ownBlock] at e), Turn.refl _ w⟩
    go_enter Try.func46, Try.ntmps46
    go_wp2
    go_ret
    exact ⟨_, rfl, HN.out⟩
  · have hpos : (0 : Int) < N := by omega
    have hpN : 0 < N := by omega
    obtain ⟨i, hi, hz0, h1, h2⟩ := info_parts str_info10
    have hz1 : i.size = 1 := h1
    have hr := Lib.run_append_grow_zeros (P := Try.prog) w 22 3 22 9 i _ .i64 .i64 Try.underlying22 Try.underlying3 hi hz0 none 0 0 [] (run_firstCells_none w.drew i.size 0 0 0) N hpN (by omega) (by omega) (by omega) (by rw [h2]; omega) (growslice_fits (by omega) (by rw [h2]; omega))
    rw [Nat.zero_add] at hr
    have hGn : N ≤ grownCap w N 0 9 := grownCap_ge w _ _ _
    have hGm := grownCap_le_maxLen w N 0 9 (by unfold maxLen; omega)
    generalize grownCap w N 0 9 = G at *
    have hsz : (#[] ++ Builtin.zeroCells (Value.cells (.string ⟨#[]⟩)) N ++ Builtin.zeroCells (Value.cells (.string ⟨#[]⟩)) (G - N)).size = G * ET10.sz := by
      rw [Array.size_append, Array.size_append, size_zeroCells, size_zeroCells]
      show 0 + N * 1 + (G - N) * 1 = G * 1
      omega
    generalize #[] ++ Builtin.zeroCells (Value.cells (.string ⟨#[]⟩)) N ++ Builtin.zeroCells (Value.cells (.string ⟨#[]⟩)) (G - N) = cur at *
    have HN : Hid (NewE ET10 9 w (w.drew.alloc (.cells cur 9)) (.slice (some ⟨w.heap.size, 0, none⟩) 0 G) []) := by
      refine ⟨OwE.of_box (E := ET10) (L := []) (c := G) (Box.new w.drew _ _) (Nat.zero_le _) hGm hsz (by simp [El.flat]), (fun k e => Nat.le_of_eq (by simpa [Value.ownBlock] using e)), (Turn.refl _ w).drew.alloc _⟩
    clear h0 hi hz0 h1 h2 hz1 hGm hsz
    go_enter Try.func46, Try.ntmps46
    go_wp2_with (at_builtin; refine Lib.wpList_append_run _ rfl _ _ _ _ rfl _ _ rfl rfl _ _ hr ?_)
    all_goals (go_ret; exact ⟨_, rfl, HN.out⟩)

def Concat10 (w : World) (L : List (List UInt8)) (e : Ending) (w' : World) : Prop := ∃ v, e = .returned v ∧ NewE ET10 9 w w' v L

set_option maxHeartbeats 4000000 in
theorem concat_any10 (B : Nat) (sa sb : Value) (K L : List (List UInt8)) (w : World) (hb : Box w B 22 #[sa, sb]) (hk : RdE ET10 w sa K) (hl : RdE ET10 w sb L) (hn : K.length + L.length ≤ 1000000) :
    Calls Try.prog 30 #[.slice (some ⟨B, 0, none⟩) 2 2] w fun e w' => Concat10 w (K ++ L) e w' := by
  obtain ⟨Aa, ca, rfl⟩ := hk.shape
  obtain ⟨Ab, cb, rfl⟩ := hl.shape
  have HB := Lib.hid hb; have HK := Lib.hid hk; have HL := Lib.hid hl
  have e0 := hb.cell 0
  have e1 := hb.cell 1
  have HG := Lib.hid (grow_any10 (K.length + L.length) hn w)
  rw [Int.natCast_add] at HG
  have n1 : ¬ ((K.length : Int) < 0) := by omega
  have n2 : ¬ ((K.length : Int) + (L.length : Int) < 0) := by omega
  clear hb hk hl
  go_enter Try.func30, Try.ntmps30
  go_wp2_with fail
  go_loopw [3, 11] (fun x3 x11 wr => w = wr ∧ ((x11 = .int .i64 0 ∧ x3 = .int .i64 0) ∨ (x11 = .int .i64 1 ∧ x3 = .int .i64 (K.length : Int)) ∨ (x11 = .int .i64 2 ∧ x3 = .int .i64 ((K.length : Int) + (L.length : Int))))) (fun _ x11 _ => 2 - (intOf x11).toNat)
  case atStart => exact ⟨rfl, .inl ⟨rfl, rfl⟩⟩
  case round =>
    obtain ⟨rfl, (⟨rfl, rfl⟩ | ⟨rfl, rfl⟩ | ⟨rfl, rfl⟩)⟩ := hrel
    · go_wp2
      go_roundw
      case rel => exact ⟨trivial, .inr (.inl ⟨rfl, by simp⟩)⟩
      case measure => simp [intOf]
    · go_wp2
      go_roundw
      case rel => exact ⟨trivial, .inr (.inr ⟨rfl, rfl⟩)⟩
      case measure => simp [intOf]
    · go_wp2_with fail
      refine HG.out.mono ?_
      rintro e w2 ⟨v, rfl, hv⟩
      have HV := Lib.hid hv
      clear hv
      go_wp2_with fail
      go_loopw [6, 27] (fun x6 x27 wr => ((x27 = .int .i64 0 ∧ NewE ET10 9 w wr x6 []) ∨ (x27 = .int .i64 1 ∧ NewE ET10 9 w wr x6 K) ∨ (x27 = .int .i64 2 ∧ NewE ET10 9 w wr x6 (K ++ L)))) (fun _ x27 _ => 2 - (intOf x27).toNat)
      case atStart => exact .inl ⟨rfl, HV.out⟩
      case round =>
        rcases hrel with ⟨rfl, hn2⟩ | ⟨rfl, hn2⟩ | ⟨rfl, hn2⟩
        · have HN := Lib.hid hn2
          obtain ⟨A3, c3, e3⟩ := hn2.own.shape
          subst e3
          have c0 := (HB.out.turn hn2.turn (fun f => f)).cell 0
          have HS := Lib.hid (HK.out.later hn2.turn)
          clear hn2
          go_wp2_with (at_builtin; refine wpList_texts10 _ rfl _ _ rfl _ _ rfl HN.out.own _ rfl K HS.out (by first | omega | (simp only [List.length_nil]; omega)) ?_; intro A4 n4 c4 w4 ho ht hn; have HN4 := Lib.hid (HN.out.step ho ht hn); clear ho ht hn)
          go_roundw
          case rel => exact .inr (.inl ⟨rfl, HN4.out⟩)
          case measure => simp [intOf]
        · have HN := Lib.hid hn2
          obtain ⟨A3, c3, e3⟩ := hn2.own.shape
          subst e3
          have c1 := (HB.out.turn hn2.turn (fun f => f)).cell 1
          have HS := Lib.hid (HL.out.later hn2.turn)
          clear hn2
          go_wp2_with (at_builtin; refine wpList_texts10 _ rfl _ _ rfl _ _ rfl HN.out.own _ rfl L HS.out (by first | omega | (simp only [List.length_nil]; omega)) ?_; intro A4 n4 c4 w4 ho ht hn; have HN4 := Lib.hid (HN.out.step ho ht hn); clear ho ht hn)
          go_roundw
          case rel => exact .inr (.inr ⟨rfl, HN4.out⟩)
          case measure => simp [intOf]
        · have HN := Lib.hid hn2
          clear hn2
          go_wp2
          go_ret
          exact ⟨_, rfl, HN.out⟩

theorem join_any10 (a b : Value) (K L : List (List UInt8)) (w : World) (h : DV10 w a K) (g : DV10 w b L) (hn : K.length + L.length ≤ 1000) : Calls Try.prog 17 #[a, b] w fun e w' => ∃ d, e = .returned d ∧ DV10 w' d (ofT (K ++ L)) ∧ Turn (fun _ => False) w w' := by
  have HA := Lib.hid (all_any10 a K w h)
  have HB := Lib.hid (all_any10 b L w g)
  obtain ⟨pa, rfl⟩ := h.ptr
  obtain ⟨pb, rfl⟩ := g.ptr
  clear h g
  go_enter Try.func17, Try.ntmps17
  go_wp2_with fail
  refine HA.out.mono ?_
  rintro e w1 ⟨⟨va, rfl, ra⟩, rfl⟩
  have HRA := Lib.hid ra
  clear ra
  go_wp2_with fail
  refine HB.out.mono ?_
  rintro e w1 ⟨⟨vb, rfl, rb⟩, rfl⟩
  have HRB := Lib.hid rb
  obtain ⟨B, hB⟩ : ∃ B : Nat, B = w.heap.size := ⟨_, rfl⟩
  have HBX := Lib.hid (Box.new w 22 #[va, vb])
  rw [← hB] at HBX
  have HTB : Hid (Turn (fun _ => False) w (w.alloc (.cells #[va, vb] 22))) := (Turn.refl _ w).alloc _
  have HC := Lib.hid (concat_any10 B va vb K L _ HBX.out (HRA.out.later HTB.out) (HRB.out.later HTB.out) (by omega))
  obtain ⟨Aa, ca, ea⟩ := HRA.out.shape
  obtain ⟨Ab, cb, eb⟩ := HRB.out.shape
  subst ea eb
  clear rb HA HB
  go_wp2_with fail
  rw [← hB]
  refine HC.out.mono ?_
  rintro e w2 ⟨v, rfl, hv⟩
  have HT2 : Hid (Turn (fun _ => False) w w2) := HTB.out.trans hv.turn (fun _ _ f => f)
  have HOF := Lib.hid (of_post_any10 v (K ++ L) w2 hv.own.rd (by rw [List.length_append]; omega))
  clear hv
  go_wp2_with fail
  refine HOF.out.mono ?_
  rintro e w3 ⟨d, rfl, hd, -, t3⟩
  have HD := Lib.hid hd
  have HT3 : Hid (Turn (fun _ => False) w w3) := HT2.out.trans t3 (fun _ _ f => f)
  clear hd t3
  obtain ⟨p, rfl⟩ := HD.out.ptr
  go_wp2
  go_ret
  exact ⟨_, rfl, HD.out, HT3.out⟩

end Go.Proofs.Ytnapeckpjnbcgaa
