/-
  Texts laid one behind the other: R1l R1n.
-/
import Derived.Test.YtgchfckmhibeaaaJocaj
import Derived.Test.YtgchfckmhibeaaaJocah

/-
  Stage 17: the law's Own, Owns, Back, Light, one.
-/
namespace Go.Proofs.Ytgchfckmhibeaaa
open Go.RowKit

set_option maxRecDepth 100000

set_option maxHeartbeats 4000000 in
theorem own_any17 (b : B17) (w : World) : Calls Try.prog 22 #[bv17 b] w fun e w' => e = .returned (bv17 b) ∧ Turn (fun _ => False) w w' := by
  obtain ⟨sq, tk, bu, A, c, fs⟩ := b
  unfold bv17 B17.sl
  dsimp only
  generalize fs.length = F
  obtain ⟨w0, hw0⟩ : ∃ w0, w0 = w.alloc (.cells #[.int .i64 sq, .int .i64 tk, .int .i64 bu, .slice A F c] 52) := ⟨_, rfl⟩
  have hb := Box.new w 52 #[.int .i64 sq, .int .i64 tk, .int .i64 bu, .slice A F c]
  have c0 := hb.cell 0; have c1 := hb.cell 1; have c2 := hb.cell 2; have c3 := hb.cell 3
  have HT : Hid (∀ o, Turn (fun _ => False) w ((w.alloc (.cells #[.int .i64 sq, .int .i64 tk, .int .i64 bu, .slice A F c] 52)).alloc o)) := fun o => ((Turn.refl _ w).alloc _).alloc _
  go_enter Try.func22, Try.ntmps22
  go_wp2_with fail
  refine bodyPost_ret (v := .agg #[.int .i64 sq, .int .i64 tk, .int .i64 bu, .slice A F c]) ?_ rfl ⟨rfl, HT.out _⟩
  rw [results_cell rfl]
  go_simp

def light17 (L : List B17) : Bool := decide (L.length ≤ 30) && L.all fun b => light9 b.f
set_option maxHeartbeats 4000000 in
theorem light_any17 (v : Value) (L : List B17) (w : World) (hv : BR17 w v L) (hl : ∀ b ∈ L, b.f.length ≤ maxLen) : Calls Try.prog 6 #[v] w fun e w' => e = .returned (.bool (light17 L)) ∧ w' = w := by
  have HV := Lib.hid hv
  obtain ⟨A, c, rfl⟩ := hv.shape
  have hfit := hv.1.fits
  have HL := Lib.hid hl
  by_cases h30 : L.length ≤ 30
  · obtain ⟨M, hM⟩ : ∃ M, M = L.length := ⟨_, rfl⟩
    rw [← hM] at HV h30 ⊢
    have HM := Lib.hid hM
    have HSPEC : Hid (light17 L = (L.drop 0).all fun b => light9 b.f) := by show light17 L = _; unfold light17; rw [decide_eq_true (by omega), Bool.true_and]; rfl
    clear hv hl hM hfit
    go_enter Try.func6, Try.ntmps6
    go_wp2_with fail
    go_loopw [3] (fun x3 wr => ∃ (i : Nat), x3 = .int .i64 (i : Int) ∧ i ≤ M ∧ wr = w ∧ light17 L = (L.drop i).all fun b => light9 b.f) (fun x3 _ => M - (intOf x3).toNat)
    case atStart => exact ⟨0, rfl, Nat.zero_le _, rfl, HSPEC.out⟩
    case round =>
      clear HSPEC
      obtain ⟨i, rfl, hi, rfl, hsp⟩ := hrel
      have HSP := Lib.hid hsp
      clear hsp
      by_cases hlt : i < M
      · have hil : (i : Int) < M := by omega
        obtain ⟨b, hb⟩ : ∃ b, L[i]? = some b := ⟨_, List.getElem?_eq_getElem (by rw [← HM.out]; exact hlt)⟩
        obtain ⟨ad, rfl, hc⟩ := bat_at17 HV.out.1 hb
        obtain ⟨a0, a1, a2, a3⟩ := hc wr (Turn.refl _ _)
        have HLG := Lib.hid (light_any9 b.sl b.f wr (HV.out.2 b (List.mem_of_getElem? hb)) (HL.out b (List.mem_of_getElem? hb)))
        have HNX : Hid (light17 L = (light9 b.f && (L.drop (i + 1)).all fun b => light9 b.f)) := by show _ = _; rw [HSP.out, drop_at17 hb]; rfl
        clear hb hc HSP
        go_wp2_with fail
        refine HLG.out.mono ?_
        rintro e w2 ⟨rfl, rfl⟩
        clear HLG
        generalize light9 b.f = lb at *
        cases lb with
        | true =>
          have HNY : Hid (light17 L = (L.drop (i + 1)).all fun b => light9 b.f) := HNX.out
          clear HNX
          go_wp2
          go_roundw
          case rel => exact ⟨i + 1, by go_num, hlt, by first | trivial | rfl, HNY.out⟩
          case measure => simp [intOf]; omega
        | false =>
          have HNY : Hid (light17 L = false) := HNX.out
          clear HNX
          go_wp2
          go_ret
          exact ⟨by rw [HNY.out]; rfl, rfl⟩
      · obtain rfl : i = M := by omega
        have HNY : Hid (light17 L = true) := by show _ = _; rw [HSP.out, List.drop_eq_nil_of_le (Nat.le_of_eq HM.out.symm)]; rfl
        clear HSP
        go_wp2
        go_ret
        exact ⟨by rw [HNY.out]; rfl, rfl⟩
  · have HSPEC : Hid (light17 L = false) := by show light17 L = _; unfold light17; rw [decide_eq_false h30]; rfl
    obtain ⟨M, hM⟩ : ∃ M, M = L.length := ⟨_, rfl⟩
    rw [← hM] at h30 ⊢
    have h31 : 30 < M := by omega
    clear hv hl h30 hfit hM
    go_enter Try.func6, Try.ntmps6
    go_wp2
    go_ret
    exact ⟨by rw [HSPEC.out]; rfl, rfl⟩

def oneP17 : P17 := ⟨1, 2, 3, [⟨⟨4, [], [], [], []⟩, 3⟩]⟩
set_option maxHeartbeats 4000000 in
theorem one_any17 (w : World) : Calls Try.prog 24 #[] w fun e w' => ∃ b : B17, e = .returned (bv17 b) ∧ b.p = oneP17 ∧ RdE EF w' b.sl b.f ∧ Turn (fun _ => False) w w' := by
  go_enter Try.func24, Try.ntmps24
  go_wp2_with fail
  have hr := one_row EF 76 (w.alloc (.cells #[.int .i64 1, .int .i64 2, .int .i64 3, .slice (some ⟨w.heap.size + 1, 0, none⟩) 1 1] 50)) ⟨⟨4, [], [], [], []⟩, 3⟩
  rw [World.size_alloc] at hr
  refine bodyPost_ret (v := .agg #[.int .i64 1, .int .i64 2, .int .i64 3, .slice (some ⟨w.heap.size + 1, 0, none⟩) 1 1]) ?_ rfl ⟨⟨1, 2, 3, some ⟨w.heap.size + 1, 0, none⟩, 1, [⟨⟨4, [], [], [], []⟩, 3⟩]⟩, rfl, rfl, hr, ((Turn.refl _ w).alloc _).alloc _⟩
  clear hr
  rw [results_cell rfl]
  go_simp

theorem walb_info17 : (Try.prog.info? 50).map (fun i => (i.zero, i.size, i.bytes)) = some (some (bv17 zb17), EB17.sz, 48) := by kernel_rfl
theorem wpList_walb17 (w : World) {ops : Array Oper} {rest : List Oper} {o : Oper} {a : Act} {Q : Exit → Act → World → Prop} (hgd : o.guard = none) (s x : Operand)
    (ho : o.op = .call { callee := .builtin .append, args := #[s, x], argTypes := #[26, 26] }) (v : Value) (l : List B17) (hs : a.eval s = v) (hown : OwE EB17 50 w v l)
    (y : Value) (hx : a.eval x = y) (m : List B17) (hy : RdE EB17 w y m) (hl : l.length + m.length ≤ 1000000)
    (h : ∀ A n c w', OwE EB17 50 w' (.slice A n c) (l ++ m) → Turn (fun k => v.ownBlock = some k) w w' → ((Value.slice A n c).ownBlock = v.ownBlock ∨ (Value.slice A n c).ownBlock = some w.heap.size) → wpList Try.prog ops Q rest (a.put o.dst (.slice A n c)) w') :
    wpList Try.prog ops Q (o :: rest) a w :=
  wpList_appE Try.underlying26 walb_info17 bat_zero17 w hgd s x _ ho v l hs hown y hx m (hy.src Try.underlying26) (by simp only [maxLen]; omega) (by omega) h
/-- Behind a list of batches laid in new memory. -/
def Bats17 (w : World) (L : List B17) (e : Ending) (w' : World) : Prop := ∃ v, e = .returned v ∧ BR17 w' v L ∧ Turn (fun _ => False) w w'
set_option maxHeartbeats 8000000 in
theorem owns_any17 (v : Value) (L : List B17) (w : World) (hv : BR17 w v L) (hl : L.length ≤ 100000) : Calls Try.prog 11 #[v] w fun e w' => Bats17 w L e w' := by
  have HV := Lib.hid hv
  obtain ⟨A, c, rfl⟩ := hv.shape
  obtain ⟨M, hM⟩ : ∃ M, M = L.length := ⟨_, rfl⟩
  have hMb : M ≤ 100000 := by omega
  rw [← hM]
  rw [← hM] at HV
  have HM := Lib.hid hM
  clear hv hl hM
  go_enter Try.func11, Try.ntmps11
  go_wp2_with fail
  go_loopw [3, 4] (fun x3 x4 wr => ∃ (i : Nat), x4 = .int .i64 (i : Int) ∧ i ≤ M ∧ NewE EB17 50 w wr x3 (L.take i)) (fun _ x4 _ => M - (intOf x4).toNat)
  case atStart => exact ⟨0, rfl, Nat.zero_le _, ⟨OwE.nil _, (fun k e => by simp [Value.ownBlock] at e), Turn.refl _ _⟩⟩
  case round =>
    obtain ⟨i, rfl, hi, hnew⟩ := hrel
    have HNW := Lib.hid hnew
    obtain ⟨A3, c3, hv3⟩ := hnew.own.shape
    subst hv3
    have hti : (L.take i).length = i := by rw [List.length_take]; have := HM.out; omega
    rw [hti] at HNW ⊢
    clear hnew hti
    by_cases hlt : i < M
    · have hil : (i : Int) < M := by omega
      obtain ⟨b, hb⟩ : ∃ b, L[i]? = some b := ⟨_, List.getElem?_eq_getElem (by rw [← HM.out]; exact hlt)⟩
      obtain ⟨ad, rfl, hc⟩ := bat_at17 HV.out.1 hb
      obtain ⟨a0, a1, a2, a3⟩ := hc wr HNW.out.turn
      have HTK : Hid (L.take (i + 1) = L.take i ++ [b]) := by
        show _ = _
        obtain ⟨h0, e⟩ := List.getElem?_eq_some_iff.1 hb
        rw [List.take_succ_eq_append_getElem h0, e]
      have HOW := Lib.hid (own_any17 b wr)
      clear hb hc
      go_wp2_with fail
      refine HOW.out.mono ?_
      rintro e w2 ⟨rfl, t2⟩
      have HN2 := Lib.hid ((HNW.out.later t2).alloc (.cells (bcells17 b) 50))
      have HSR := Lib.hid (one_row EB17 50 w2 b)
      have HLM : Hid ((L.take i).length + 1 ≤ 1000000) := by show _ ≤ _; rw [List.length_take]; omega
      clear t2 a0 a1 a2 a3 HOW
      go_wp2_with (at_builtin; refine wpList_walb17 _ rfl _ _ rfl _ _ rfl HN2.out.own _ rfl [b] HSR.out HLM.out ?_; intro A5 n5 c5 w5 ho5 ht5 hn5; have HN5 := Lib.hid (HN2.out.step ho5 ht5 hn5); clear ho5 ht5 hn5)
      go_roundw
      case rel => exact ⟨i + 1, by go_num, hlt, by rw [HTK.out]; exact HN5.out⟩
      case measure => simp [intOf]; omega
    · obtain rfl : i = M := by omega
      have HTK : Hid (L.take i = L) := List.take_of_length_le (Nat.le_of_eq HM.out.symm)
      go_wp2
      go_ret
      have h := HNW.out.own.rd
      rw [HTK.out] at h
      exact ⟨_, rfl, ⟨h, fun b hb => (HV.out.2 b hb).later HNW.out.turn⟩, HNW.out.turn⟩

set_option maxHeartbeats 16000000 in
theorem back_any17 (v : Value) (L : List B17) (w : World) (hv : BR17 w v L) (hl : L.length ≤ 100000) : Calls Try.prog 14 #[v] w fun e w' => Bats17 w L e w' := by
  have HV := Lib.hid hv
  obtain ⟨A, c, rfl⟩ := hv.shape
  obtain ⟨M, hM⟩ : ∃ M, M = L.length := ⟨_, rfl⟩
  have hMb : M ≤ 100000 := by omega
  rw [← hM]
  rw [← hM] at HV
  have HM := Lib.hid hM
  clear hv hl hM
  go_enter Try.func14, Try.ntmps14
  go_wp2_with fail
  go_loopw [3, 4] (fun x3 x4 wr => ∃ (i : Nat), x4 = .int .i64 (i : Int) ∧ i ≤ M ∧ NewE EB17 52 w wr x3 (L.take i)) (fun _ x4 _ => M - (intOf x4).toNat)
  case atStart => exact ⟨0, rfl, Nat.zero_le _, ⟨OwE.nil _, (fun k e => by simp [Value.ownBlock] at e), Turn.refl _ _⟩⟩
  case round =>
    obtain ⟨i, rfl, hi, hnew⟩ := hrel
    have HNW := Lib.hid hnew
    obtain ⟨A3, c3, hv3⟩ := hnew.own.shape
    subst hv3
    have hti : (L.take i).length = i := by rw [List.length_take]; have := HM.out; omega
    rw [hti] at HNW ⊢
    clear hnew hti
    by_cases hlt : i < M
    · have hil : (i : Int) < M := by omega
      obtain ⟨b, hb⟩ : ∃ b, L[i]? = some b := ⟨_, List.getElem?_eq_getElem (by rw [← HM.out]; exact hlt)⟩
      obtain ⟨ad, rfl, hc⟩ := bat_at17 HV.out.1 hb
      have HC := Lib.hid hc
      have HTK : Hid (L.take (i + 1) = L.take i ++ [b]) := by
        show _ = _
        obtain ⟨h0, e⟩ := List.getElem?_eq_some_iff.1 hb
        rw [List.take_succ_eq_append_getElem h0, e]
      have HLM : Hid ((L.take i).length + 1 ≤ 1000000) := by show _ ≤ _; rw [List.length_take]; omega
      have HTA : Hid (∀ W, Turn (fun g => (Value.slice A3 i c3).ownBlock = some g) wr W → Turn (fun _ => False) w W) := fun W hW => HNW.out.turn.trans hW (fun g hg e => by have h1 := HNW.out.new g e; omega)
      clear hb hc
      go_wp2_with fail
      refine drawn_region (fun W => Turn (fun g => (Value.slice A3 i c3).ownBlock = some g) wr W) [] (by kernel_rfl) ?_
      have HWD : Hid (Turn (fun _ => False) wr (World.drew wr)) := (Turn.refl _ wr).drew
      have hS0 : Turn (fun g => (Value.slice A3 i c3).ownBlock = some g) wr (World.drew wr) := HWD.out.mono (fun _ _ f => f.elim)
      generalize World.drew wr = wd at *
      refine drawn_take 0 11 (.slice A3 i c3) rfl rfl (by kernel_rfl) (by kernel_rfl) (by kernel_rfl) (by kernel_rfl) (fun _ _ _ h => h) (by rfl) (by assumption) (by intro w hSw; obtain hS1 := hSw; go_simp) ?_
      try simp only [List.setIfInBounds_toArray, List.set_cons_zero, List.set_cons_succ]
      refine drawn_take 1 12 (.slice (some ad) M c) rfl rfl (by kernel_rfl) (by kernel_rfl) (by kernel_rfl) (by kernel_rfl) (fun _ _ _ h => h) (by rfl) (by assumption) (by intro w hSw; obtain hS1 := hSw; go_simp) ?_
      try simp only [List.setIfInBounds_toArray, List.set_cons_zero, List.set_cons_succ]
      refine drawn_take 2 13 (.int .i64 (i : Int)) rfl rfl (by kernel_rfl) (by kernel_rfl) (by kernel_rfl) (by kernel_rfl) (fun _ _ _ h => h) (by rfl) (by assumption) (by intro w hSw; obtain hS1 := hSw; go_simp) ?_
      try simp only [List.setIfInBounds_toArray, List.set_cons_zero, List.set_cons_succ]
      refine drawn_take 3 14 (.pointer (some (ad.add (i * 4)))) rfl rfl (by kernel_rfl) (by kernel_rfl) (by kernel_rfl) (by kernel_rfl) (fun _ _ _ h => h) (by rfl) (by assumption) (by intro w hSw; obtain hS1 := hSw; go_simp) ?_
      try simp only [List.setIfInBounds_toArray, List.set_cons_zero, List.set_cons_succ]
      refine drawn_take 4 15 (.pointer (some (ad.add (i * 4)))) rfl rfl (by kernel_rfl) (by kernel_rfl) (by kernel_rfl) (by kernel_rfl) (fun _ _ _ h => h) (by rfl) (by assumption) (by intro w hSw; obtain hS1 := hSw; go_simp) ?_
      try simp only [List.setIfInBounds_toArray, List.set_cons_zero, List.set_cons_succ]
      refine drawn_take 5 16 (.int .i64 b.seq) rfl rfl (by kernel_rfl) (by kernel_rfl) (by kernel_rfl) (by kernel_rfl) (fun _ _ _ h => h) (by rfl) (by assumption) (by intro w hSw; obtain ⟨b0, b1, b2, b3⟩ := HC.out _ (HTA.out _ hSw); clear hSw; go_simp) ?_
      try simp only [List.setIfInBounds_toArray, List.set_cons_zero, List.set_cons_succ]
      refine drawn_take 6 17 (.slice (some ad) M c) rfl rfl (by kernel_rfl) (by kernel_rfl) (by kernel_rfl) (by kernel_rfl) (fun _ _ _ h => h) (by rfl) (by assumption) (by intro w hSw; obtain hS1 := hSw; go_simp) ?_
      try simp only [List.setIfInBounds_toArray, List.set_cons_zero, List.set_cons_succ]
      refine drawn_take 7 18 (.int .i64 (i : Int)) rfl rfl (by kernel_rfl) (by kernel_rfl) (by kernel_rfl) (by kernel_rfl) (fun _ _ _ h => h) (by rfl) (by assumption) (by intro w hSw; obtain hS1 := hSw; go_simp) ?_
      try simp only [List.setIfInBounds_toArray, List.set_cons_zero, List.set_cons_succ]
      refine drawn_take 8 19 (.pointer (some (ad.add (i * 4)))) rfl rfl (by kernel_rfl) (by kernel_rfl) (by kernel_rfl) (by kernel_rfl) (fun _ _ _ h => h) (by rfl) (by assumption) (by intro w hSw; obtain hS1 := hSw; go_simp) ?_
      try simp only [List.setIfInBounds_toArray, List.set_cons_zero, List.set_cons_succ]
      refine drawn_take 9 20 (.pointer (some ⟨(ad.add (i * 4)).block, (ad.add (i * 4)).off + 1, none⟩)) rfl rfl (by kernel_rfl) (by kernel_rfl) (by kernel_rfl) (by kernel_rfl) (fun _ _ _ h => h) (by rfl) (by assumption) (by intro w hSw; obtain hS1 := hSw; go_simp) ?_
      try simp only [List.setIfInBounds_toArray, List.set_cons_zero, List.set_cons_succ]
      refine drawn_take 10 21 (.int .i64 b.tick) rfl rfl (by kernel_rfl) (by kernel_rfl) (by kernel_rfl) (by kernel_rfl) (fun _ _ _ h => h) (by rfl) (by assumption) (by intro w hSw; obtain ⟨b0, b1, b2, b3⟩ := HC.out _ (HTA.out _ hSw); clear hSw; go_simp) ?_
      try simp only [List.setIfInBounds_toArray, List.set_cons_zero, List.set_cons_succ]
      refine drawn_take 11 22 (.slice (some ad) M c) rfl rfl (by kernel_rfl) (by kernel_rfl) (by kernel_rfl) (by kernel_rfl) (fun _ _ _ h => h) (by rfl) (by assumption) (by intro w hSw; obtain hS1 := hSw; go_simp) ?_
      try simp only [List.setIfInBounds_toArray, List.set_cons_zero, List.set_cons_succ]
      refine drawn_take 12 23 (.int .i64 (i : Int)) rfl rfl (by kernel_rfl) (by kernel_rfl) (by kernel_rfl) (by kernel_rfl) (fun _ _ _ h => h) (by rfl) (by assumption) (by intro w hSw; obtain hS1 := hSw; go_simp) ?_
      try simp only [List.setIfInBounds_toArray, List.set_cons_zero, List.set_cons_succ]
      refine drawn_take 13 24 (.pointer (some (ad.add (i * 4)))) rfl rfl (by kernel_rfl) (by kernel_rfl) (by kernel_rfl) (by kernel_rfl) (fun _ _ _ h => h) (by rfl) (by assumption) (by intro w hSw; obtain hS1 := hSw; go_simp) ?_
      try simp only [List.setIfInBounds_toArray, List.set_cons_zero, List.set_cons_succ]
      refine drawn_take 14 25 (.pointer (some ⟨(ad.add (i * 4)).block, (ad.add (i * 4)).off + 2, none⟩)) rfl rfl (by kernel_rfl) (by kernel_rfl) (by kernel_rfl) (by kernel_rfl) (fun _ _ _ h => h) (by rfl) (by assumption) (by intro w hSw; obtain hS1 := hSw; go_simp) ?_
      try simp only [List.setIfInBounds_toArray, List.set_cons_zero, List.set_cons_succ]
      refine drawn_take 15 26 (.int .i64 b.bud) rfl rfl (by kernel_rfl) (by kernel_rfl) (by kernel_rfl) (by kernel_rfl) (fun _ _ _ h => h) (by rfl) (by assumption) (by intro w hSw; obtain ⟨b0, b1, b2, b3⟩ := HC.out _ (HTA.out _ hSw); clear hSw; go_simp) ?_
      try simp only [List.setIfInBounds_toArray, List.set_cons_zero, List.set_cons_succ]
      refine drawn_take 16 27 (.slice (some ad) M c) rfl rfl (by kernel_rfl) (by kernel_rfl) (by kernel_rfl) (by kernel_rfl) (fun _ _ _ h => h) (by rfl) (by assumption) (by intro w hSw; obtain hS1 := hSw; go_simp) ?_
      try simp only [List.setIfInBounds_toArray, List.set_cons_zero, List.set_cons_succ]
      refine drawn_take 17 28 (.int .i64 (i : Int)) rfl rfl (by kernel_rfl) (by kernel_rfl) (by kernel_rfl) (by kernel_rfl) (fun _ _ _ h => h) (by rfl) (by assumption) (by intro w hSw; obtain hS1 := hSw; go_simp) ?_
      try simp only [List.setIfInBounds_toArray, List.set_cons_zero, List.set_cons_succ]
      refine drawn_take 18 29 (.pointer (some (ad.add (i * 4)))) rfl rfl (by kernel_rfl) (by kernel_rfl) (by kernel_rfl) (by kernel_rfl) (fun _ _ _ h => h) (by rfl) (by assumption) (by intro w hSw; obtain hS1 := hSw; go_simp) ?_
      try simp only [List.setIfInBounds_toArray, List.set_cons_zero, List.set_cons_succ]
      refine drawn_take 19 30 (.pointer (some ⟨(ad.add (i * 4)).block, (ad.add (i * 4)).off + 3, none⟩)) rfl rfl (by kernel_rfl) (by kernel_rfl) (by kernel_rfl) (by kernel_rfl) (fun _ _ _ h => h) (by rfl) (by assumption) (by intro w hSw; obtain hS1 := hSw; go_simp) ?_
      try simp only [List.setIfInBounds_toArray, List.set_cons_zero, List.set_cons_succ]
      refine drawn_take 20 31 (b.sl) rfl rfl (by kernel_rfl) (by kernel_rfl) (by kernel_rfl) (by kernel_rfl) (fun _ _ _ h => h) (by rfl) (by assumption) (by intro w hSw; obtain ⟨b0, b1, b2, b3⟩ := HC.out _ (HTA.out _ hSw); clear hSw; go_simp) ?_
      try simp only [List.setIfInBounds_toArray, List.set_cons_zero, List.set_cons_succ]
      refine drawn_take 21 32 (bv17 b) rfl rfl (by kernel_rfl) (by kernel_rfl) (by kernel_rfl) (by kernel_rfl) (fun _ _ _ h => h) (by rfl) (by assumption) (by intro w hSw; obtain hS1 := hSw; go_simp) ?_
      try simp only [List.setIfInBounds_toArray, List.set_cons_zero, List.set_cons_succ]
      refine drawn_any [22] (by kernel_rfl) (by simp) ?_
      refine drawn_cons rfl (fun K hK => ?_) drawn_nil
      go_simp
      have hS4 := hS0.alloc (.cells (EB17.enc b).toArray 52)
      have HSR := Lib.hid (one_row EB17 52 wd b)
      have HN4 := Lib.hid ((HNW.out.later HWD.out).alloc (.cells (EB17.enc b).toArray 52))
      have HW4 : Hid (Turn (fun _ => False) wr (wd.alloc (.cells (EB17.enc b).toArray 52))) := HWD.out.alloc _
      refine hK.out _ _ _ hS4 ?_
      clear hK K hS0
      try simp only [List.setIfInBounds_toArray, List.set_cons_zero, List.set_cons_succ]
      refine drawn_any [23] (by kernel_rfl) (by simp) ?_
      refine drawn_cons rfl (fun K1 hK => ?_) drawn_nil
      refine put_app Try.underlying23 bat_info17 bat_zero17 (by omega) (L.take i) HN4.out.own [b] HSR.out (by have := HLM.out; simp only [List.length_cons, List.length_nil]; omega) ?_
      intro A5 n5 c5 w5 ho5 ht5 hn5
      have HN5 := Lib.hid (HN4.out.step ho5 ht5 hn5)
      have hS5 : Turn (fun g => (Value.slice A3 i c3).ownBlock = some g) wr w5 := (HW4.out.mono (fun _ _ f => f.elim)).trans ht5 (fun _ _ e => e)
      refine hK.out _ _ _ hS5 ?_
      clear hK K1 ho5 ht5 hn5 hS4
      try simp only [List.setIfInBounds_toArray, List.set_cons_zero, List.set_cons_succ]
      refine drawn_last1 24 3 (.slice A5 n5 c5) rfl rfl (by kernel_rfl) (by kernel_rfl) (by rfl) (by intro w; go_simp) hS5 ?_
      try simp only [List.setIfInBounds_toArray, List.set_cons_zero, List.set_cons_succ]
      clear hS5
      go_wp2
      go_roundw
      case rel => exact ⟨i + 1, by go_num, hlt, by rw [HTK.out]; exact HN5.out⟩
      case measure => simp [intOf]; omega
    · obtain rfl : i = M := by omega
      have HTK : Hid (L.take i = L) := List.take_of_length_le (Nat.le_of_eq HM.out.symm)
      go_wp2
      go_ret
      have h := HNW.out.own.rd
      rw [HTK.out] at h
      exact ⟨_, rfl, ⟨h, fun b hb => (HV.out.2 b hb).later HNW.out.turn⟩, HNW.out.turn⟩

end Go.Proofs.Ytgchfckmhibeaaa

/-
  Stage 17: what is asked of the program's wal; alive.
-/
namespace Go.Proofs.Ytgchfckmhibeaaa
open Go.RowKit

set_option maxRecDepth 100000

/-- Behind a call that gives bytes and what is wrong. -/
def RecP17 (w : World) (r : List UInt8 × Int) (e : Ending) (w' : World) : Prop := ∃ v, e = .returned (.tuple #[v, .int .i64 r.2]) ∧ Rd w' v r.1 ∧ Turn (fun _ => False) w w'
/-- What is asked of the program. -/
structure Prog17 : Prop where
  right : ∀ (b : B17) (n : Int) (w : World), RdE EF w b.sl b.f → b.f.length ≤ 1000 → b.fits → Calls Try.prog 25 #[bv17 b, .int .i64 n] w fun e w' => e = .returned (.bool (right17 b.p n)) ∧ Turn (fun _ => False) w w'
  record : ∀ (b : B17) (n : Int) (w : World), RdE EF w b.sl b.f → b.f.length ≤ 1000 → b.fits → Calls Try.prog 21 #[bv17 b, .int .i64 n] w fun e w' => RecP17 w (rec17 b.p n) e w'
  replay : ∀ (v : Value) (d : List UInt8) (n : Int) (w : World), Rd w v d → d.length ≤ 900000 → Calls Try.prog 8 #[v, .int .i64 n] w fun e w' => Replayed17 w (replay17 d n) e w'
  bytes : ∀ (v : Value) (L : List B17) (n : Int) (w : World), BR17 w v L → Some17 L → (∀ b ∈ L, b.fits) → Calls Try.prog 10 #[v, .int .i64 n] w fun e w' => RecP17 w (bytes17 n (L.map B17.p)) e w'
  trim : ∀ (v : Value) (L : List B17) (lo hi mark : Int) (w : World), BR17 w v L → Some17 L → Calls Try.prog 16 #[v, .int .i64 lo, .int .i64 hi, .int .i64 mark] w fun e w' => Trimmed17 w (trim17 (L.map B17.p) lo hi mark) e w'
  facts : ∀ (v : Value) (L : List B17) (lo hi : Int) (w : World), BR17 w v L → Some17 L → Calls Try.prog 19 #[v, .int .i64 lo, .int .i64 hi] w fun e w' => Facts9 w (facts17 (L.map B17.p) lo hi) e w'

/-- Of batches all records are no great ones. -/
theorem few17 {L : List B17} (h : Some17 L) (n : Int) : Few17 n L := ⟨h.1, fun b hb => ⟨h.2 b hb, fun h0 => by have := batch_len9 h0; omega⟩⟩
theorem light_some17 {L : List B17} (h : light17 L = true) : Some17 L ∧ L.length ≤ 30 := by
  unfold light17 at h
  rw [Bool.and_eq_true, decide_eq_true_iff, List.all_eq_true] at h
  exact ⟨⟨by omega, fun b hb => by have := light_len9 (h.2 b hb); omega⟩, h.1⟩

theorem one_fits17 {b : B17} (h : b.p = oneP17) : b.fits := by
  have h1 : b.seq = 1 := congrArg P17.seq h
  have h2 : b.tick = 2 := congrArg P17.tick h
  have h3 : b.bud = 3 := congrArg P17.bud h
  unfold B17.fits I64
  rw [h1, h2, h3]
  decide
def R17 : List UInt8 := fr (pay17 oneP17 1)
theorem one_rec17 : rec17 oneP17 1 = (R17, 0) := by
  unfold rec17
  rw [if_pos (show right17 oneP17 1 = true from one_right17)]
  rfl
theorem one_replay17 : replay17 R17 1 = ([oneP17], R17.length) := by
  have hr : ∀ b ∈ [oneP17], right17 b 1 = true := fun b hb => by rw [List.mem_singleton.1 hb]; exact one_right17
  have e : joined (pays17 1 [oneP17]) = R17 := by
    show [pay17 oneP17 (1 : Int).toNat].flatMap fr = _
    rw [List.flatMap_cons]
    exact List.append_nil _
  have h := replay_cut17 (n := 1) (l := [oneP17]) hr ⟨(fun s e => by cases e), trivial⟩ R17.length
  have hm : many17 R17.length 1 [oneP17] = 1 := by
    have h1 := many_le17 (m := R17.length) (n := 1) (l := [oneP17])
    have h2 := (ends_in17 (m := R17.length) (L := pays17 1 [oneP17]) (i := 0) (by decide)).1 (by rw [show (pays17 1 [oneP17]).take (0 + 1) = pays17 1 [oneP17] from rfl, ← joined_len, e]; exact Nat.le_refl _)
    unfold many17 at h1 ⊢
    rw [List.length_singleton] at h1
    omega
  rw [hm, e, List.take_of_length_le (Nat.le_refl _)] at h
  rw [h]
  show ([oneP17], total (pays17 1 [oneP17])) = _
  rw [← joined_len, e]
theorem one_bytes17 : R17[1]? = some 1 ∧ R17[2]? = some 2 ∧ R17[3]? = some 3 := by decide +kernel
theorem one_len17 : 4 < R17.length ∧ R17.length ≤ 20000 := by
  unfold R17
  rw [fr_len]
  have h1 := pay_len17 (b := oneP17) (n := 1) one_right17
  have h2 := enc_ten (pay17 oneP17 1).length
  have h3 := sz_pos (pay17 oneP17 1).length
  have e : (1 : Int).toNat = 1 := rfl
  rw [e] at h1
  unfold sz at h3 ⊢
  omega

set_option maxHeartbeats 8000000 in
theorem alive_any17 (P : Prog17) (w : World) : Calls Try.prog 7 #[] w fun e w' => e = .returned (.bool true) ∧ Turn (fun _ => False) w w' := by
  go_enter Try.func7, Try.ntmps7
  go_wp2_with fail
  refine (one_any17 w).mono ?_
  rintro e w1 ⟨b, rfl, hb, r1, t1⟩
  have hfl : b.f.length ≤ 1000 := by have := congrArg (fun p => p.f.length) hb; exact Nat.le_trans (Nat.le_of_eq this) (by decide)
  have hrc := P.record b 1 w1 r1 hfl (one_fits17 hb)
  unfold RecP17 at hrc
  rw [hb, one_rec17] at hrc
  have HRC := Lib.hid hrc; have HT1 := Lib.hid t1
  clear hrc hb hfl r1 t1
  obtain ⟨R, hR⟩ : ∃ R, R = R17 := ⟨_, rfl⟩
  rw [← hR] at HRC
  have hL := one_len17
  have hY := one_bytes17
  have hP := one_replay17
  rw [← hR] at hL hY hP
  clear hR
  go_wp2_with fail
  refine HRC.out.mono ?_
  rintro e w2 ⟨v2, rfl, r2, t2⟩
  have hrp := P.replay v2 R 1 w2 r2 (by omega)
  rw [hP] at hrp
  unfold Replayed17 at hrp
  have HRP := Lib.hid hrp
  obtain ⟨A2, c2, rfl⟩ := r2.shape
  have HR2 := Lib.hid r2; have HT2 := Lib.hid (HT1.out.trans t2 (fun _ _ f => f))
  clear hrp r2 t2 HRC hP
  obtain ⟨N, hN⟩ : ∃ N, N = R.length := ⟨_, rfl⟩
  rw [← hN] at HRP HR2 hL ⊢
  have HY := Lib.hid hY
  obtain ⟨h4, h5⟩ := hL
  clear hY hN
  go_wp2_with fail
  refine HRP.out.mono ?_
  rintro e w3 ⟨v3, L, rfl, hm, b3, t3⟩
  obtain ⟨x, rfl⟩ : ∃ x, L = [x] := by
    have := congrArg List.length hm
    rw [List.length_map, List.length_singleton] at this
    exact List.length_eq_one_iff.1 this
  have hx : x.tick = 2 := by
    have : [x.p] = [oneP17] := hm
    injection this with this _
    exact congrArg P17.tick this
  obtain ⟨A3, c3, rfl⟩ := b3.shape
  obtain ⟨ad3, rfl, hc3⟩ := bat_at17 b3.1 (j := 0) (b := x) rfl
  obtain ⟨x0, x1, x2, x3⟩ := hc3 w3 (Turn.refl _ _)
  rw [hx] at x1
  have hr3 := HR2.out.later t3
  obtain ⟨ad2, rfl, y1⟩ := hr3.at HY.out.1
  obtain ⟨ad2', e2, y2⟩ := hr3.at HY.out.2.1
  obtain ⟨ad2'', e3, y3⟩ := hr3.at HY.out.2.2
  cases e2
  cases e3
  have y1 : w3.cell? ⟨ad2.block, ad2.off + 1, none⟩ = some (.int .u8 1) := y1
  have y2 : w3.cell? ⟨ad2.block, ad2.off + 2, none⟩ = some (.int .u8 2) := y2
  have y3 : w3.cell? ⟨ad2.block, ad2.off + 3, none⟩ = some (.int .u8 3) := y3
  have x1 : w3.cell? ⟨ad3.block, ad3.off + 1, none⟩ = some (.int .i64 2) := x1
  have HT3 := Lib.hid (HT2.out.trans t3 (fun _ _ f => f))
  clear hm b3 t3 HRP hc3 hx x0 x2 x3 hr3 HY
  go_wp2_with fail
  refine (one_any17 w3).mono ?_
  rintro e w4 ⟨b4, rfl, hb4, r4, t4⟩
  have hfl4 : b4.f.length ≤ 1000 := by have := congrArg (fun p => p.f.length) hb4; exact Nat.le_trans (Nat.le_of_eq this) (by decide)
  have hrt := P.right b4 1 w4 r4 hfl4 (one_fits17 hb4)
  rw [hb4, show right17 oneP17 1 = true from one_right17] at hrt
  have HT4 := Lib.hid (HT3.out.trans t4 (fun _ _ f => f))
  clear hb4 hfl4 r4 t4
  go_wp2_with fail
  refine hrt.mono ?_
  rintro e w5 ⟨rfl, t5⟩
  have HT5 := Lib.hid (HT4.out.trans t5 (fun _ _ f => f))
  clear t5 hrt
  go_wp2
  go_ret
  exact ⟨rfl, HT5.out⟩

end Go.Proofs.Ytgchfckmhibeaaa
