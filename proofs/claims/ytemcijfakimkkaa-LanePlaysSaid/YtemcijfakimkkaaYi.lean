
/-
  Stage 8: both lanes side by side: an act on both.
-/
import Derived.Test.YtemcijfakimkkaaYf
import Derived.Test.YtemcijfakimkkaaYh
namespace Go.Proofs.Ytemcijfakimkkaa
open Go.RowKit Go.Conc Go.ChangeShapes Go.WideShapes Go.Deep

set_option maxRecDepth 100000

/-- What calls on either leave as it is: numbers, acts. -/
structure Keep8 (w w' : World) : Prop where
  nums : ∀ v l, RdE E8 w v l → RdE E8 w' v l
  acts : ∀ b vs, Box w b 33 vs → Box w' b 33 vs
theorem Keep8.later {w w' : World} (ht : Turn (fun _ => False) w w') : Keep8 w w' := ⟨fun _ _ h => h.later ht, fun _ _ h => h.turn ht (fun f => f)⟩
theorem Keep8.trans {a b c : World} (h : Keep8 a b) (g : Keep8 b c) : Keep8 a c := ⟨fun v l x => g.nums v l (h.nums v l x), fun v l x => g.acts v l (h.acts v l x)⟩

/-- The program's lanes hold LL, the document's MM. -/
structure Two8 (w : World) (g ar : Nat) (cs : List Nat) (g2 ar2 room : Nat) (LL MM : List (List Int)) (W : World) : Prop where
  p : LP W g ar cs room LL
  r : LR W g2 ar2 room MM
  newc : ∀ c ∈ cs, w.heap.size ≤ c
  newr : w.heap.size ≤ ar2
  turn : Turn (fun _ => False) w W
section
variable {w W W2 : World} {g ar g2 ar2 room : Nat} {cs : List Nat} {LL LL2 MM MM2 : List (List Int)}
theorem Two8.later (h : Two8 w g ar cs g2 ar2 room LL MM W) (ht : Turn (fun _ => False) W W2) : Two8 w g ar cs g2 ar2 room LL MM W2 := ⟨h.p.later ht, h.r.later ht, h.newc, h.newr, h.turn.trans ht (fun _ _ f => f)⟩
theorem Two8.prog (h : Two8 w g ar cs g2 ar2 room LL MM W) (h2 : LP W2 g ar cs room LL2) (ht : Turn (fun k => k ∈ cs) W W2) : Two8 w g ar cs g2 ar2 room LL2 MM W2 ∧ Keep8 W W2 := by
  obtain ⟨vs, b1, b2, -⟩ := h.r
  exact ⟨⟨h2, h.r.turn ht (h.p.ne_box b1) (h.p.ne_box b2) h.p.noNum, h.newc, h.newr, h.turn.trans ht (fun k hk e => by have := h.newc k e; omega)⟩,
    ⟨fun v l x => rd_keeps x ht h.p.noNum, fun b vs x => x.turn ht (h.p.ne_box x)⟩⟩
theorem box_ne {g b : Nat} {t u : TypeId} {vs us : Array Value} (h : Box W g t vs) (h2 : Box W b u us) (hne : t ≠ u) : g ≠ b := fun e => by
  subst e
  have e1 := h.symm.trans h2
  injection e1 with e1
  injection e1 with _ e2
  exact hne e2
theorem Two8.doc (h : Two8 w g ar cs g2 ar2 room LL MM W) (h2 : LR W2 g2 ar2 room MM2) (ht : Turn (fun k => k = ar2) W W2) : Two8 w g ar cs g2 ar2 room LL MM2 W2 ∧ Keep8 W W2 := by
  obtain ⟨vs, b1, b2, -⟩ := h.r
  refine ⟨⟨h.p.turn ht (box_ne h.p.obj b2 (by decide)) (box_ne h.p.row b2 (by decide)) (fun c hc e => h.p.ne_box b2 (e ▸ hc)) h.r.noNum, h2, h.newc, h.newr, h.turn.trans ht (fun k hk e => by have := h.newr; omega)⟩,
    ⟨fun v l x => rd_keeps x ht h.r.noNum, fun b vs x => x.turn ht (box_ne x b2 (by decide))⟩⟩
theorem two_put (i x : Int) (h : Two8 w g ar cs g2 ar2 room LL MM W) : Calls Try.prog 12 #[.pointer (some ⟨g, 0, none⟩), .int .i64 i, .int .i64 x] W fun e w' => e = .returned (.int .i64 (putF room LL i)) ∧ Two8 w g ar cs g2 ar2 room (putL room LL i x) MM w' ∧ Keep8 W w' :=
  (lp_put i x h.p).mono fun _ _ ⟨e, h2, t2⟩ => ⟨e, h.prog h2 t2⟩
theorem two_rput (i x : Int) (h : Two8 w g ar cs g2 ar2 room LL MM W) : Calls Try.prog 16 #[.pointer (some ⟨g2, 0, none⟩), .int .i64 i, .int .i64 x] W fun e w' => e = .returned (.int .i64 (putF room MM i)) ∧ Two8 w g ar cs g2 ar2 room LL (putL room MM i x) w' ∧ Keep8 W w' :=
  (ref_put8 i x h.r).mono fun _ _ ⟨e, h2, t2⟩ => ⟨e, h.doc h2 t2⟩
theorem two_take (h : Two8 w g ar cs g2 ar2 room LL MM W) : Calls Try.prog 13 #[.pointer (some ⟨g, 0, none⟩)] W fun e w' => e = .returned (.tuple #[.int .i64 (takeI LL), .int .i64 (takeX LL), .bool (takeB LL)]) ∧ Two8 w g ar cs g2 ar2 room (takeL LL) MM w' ∧ Keep8 W w' :=
  (take_any h.p).mono fun _ _ ⟨e, h2, t2⟩ => ⟨e, h.prog h2 t2⟩
theorem two_rtake (h : Two8 w g ar cs g2 ar2 room LL MM W) : Calls Try.prog 17 #[.pointer (some ⟨g2, 0, none⟩)] W fun e w' => e = .returned (.tuple #[.int .i64 (takeI MM), .int .i64 (takeX MM), .bool (takeB MM)]) ∧ Two8 w g ar cs g2 ar2 room LL (takeL MM) w' ∧ Keep8 W w' :=
  (ref_take8 h.r).mono fun _ _ ⟨e, h2, t2⟩ => ⟨e, h.doc h2 t2⟩
theorem two_from (i : Int) (h : Two8 w g ar cs g2 ar2 room LL MM W) : Calls Try.prog 14 #[.pointer (some ⟨g, 0, none⟩), .int .i64 i] W fun e w' => e = .returned (.tuple #[.int .i64 (fromX LL i), .bool (fromB LL i)]) ∧ Two8 w g ar cs g2 ar2 room (fromL LL i) MM w' ∧ Keep8 W w' :=
  (lp_from i h.p).mono fun _ _ ⟨e, h2, t2⟩ => ⟨e, h.prog h2 t2⟩
theorem two_rfrom (i : Int) (h : Two8 w g ar cs g2 ar2 room LL MM W) : Calls Try.prog 18 #[.pointer (some ⟨g2, 0, none⟩), .int .i64 i] W fun e w' => e = .returned (.tuple #[.int .i64 (fromX MM i), .bool (fromB MM i)]) ∧ Two8 w g ar cs g2 ar2 room LL (fromL MM i) w' ∧ Keep8 W w' :=
  (ref_from8 i h.r).mono fun _ _ ⟨e, h2, t2⟩ => ⟨e, h.doc h2 t2⟩
theorem two_drain (i : Int) (h : Two8 w g ar cs g2 ar2 room LL MM W) : Calls Try.prog 15 #[.pointer (some ⟨g, 0, none⟩), .int .i64 i] W fun e w' => ∃ v, e = .returned v ∧ RdE E8 w' v (drainV LL i) ∧ Two8 w g ar cs g2 ar2 room (drainL LL i) MM w' ∧ Keep8 W w' :=
  (lp_drain i h.p).mono fun _ _ ⟨v, e, o, _, h2, t2⟩ => ⟨v, e, o.rd, h.prog h2 t2⟩
theorem two_rdrain (i : Int) (h : Two8 w g ar cs g2 ar2 room LL MM W) : Calls Try.prog 20 #[.pointer (some ⟨g2, 0, none⟩), .int .i64 i] W fun e w' => ∃ v, e = .returned v ∧ RdE E8 w' v (drainV MM i) ∧ Two8 w g ar cs g2 ar2 room LL (drainL MM i) w' ∧ Keep8 W w' :=
  (ref_drain8 i h.r).mono fun _ _ ⟨v, e, o, h2, t2⟩ => ⟨v, e, o, h.doc h2 t2⟩
end
/-- Both hold the same. -/
def Run8 (w : World) (g ar : Nat) (cs : List Nat) (g2 ar2 room : Nat) (W : World) : Prop := ∃ LL, Two8 w g ar cs g2 ar2 room LL LL W
theorem drain_len (LL : List (List Int)) (i : Int) {room : Nat} (h : ∀ l ∈ LL, l.length ≤ room) : (drainV LL i).length ≤ room := by
  unfold drainV
  rcases at8_cases LL i with ⟨e0, -⟩ | ⟨j, l, -, hj, e0⟩
  · rw [e0]; exact Nat.zero_le _
  · rw [e0]; exact h l (List.mem_of_getElem? hj)

set_option maxHeartbeats 8000000 in
theorem act_any8 {w W : World} {g ar g2 ar2 room : Nat} {cs : List Nat} (kind lane x : Int) (h : Run8 w g ar cs g2 ar2 room W) :
    Calls Try.prog 9 #[.pointer (some ⟨g, 0, none⟩), .pointer (some ⟨g2, 0, none⟩), .agg #[.int .i64 kind, .int .i64 lane, .int .i64 x]] W fun e w' => e = .returned (.bool true) ∧ Run8 w g ar cs g2 ar2 room w' := by
  obtain ⟨LL, h⟩ := h
  obtain ⟨w0, hw0⟩ : ∃ w0, w0 = W.alloc (.cells #[.int .i64 kind, .int .i64 lane, .int .i64 x] 33) := ⟨_, rfl⟩
  have HW := Lib.hid hw0
  have HB0 : Hid (Box w0 W.heap.size 33 #[.int .i64 kind, .int .i64 lane, .int .i64 x]) := by rw [hw0]; exact Box.new W _ _
  have H0 : Hid (Two8 w g ar cs g2 ar2 room LL LL w0) := by rw [hw0]; exact h.later ((Turn.refl _ W).alloc _)
  generalize hb : W.heap.size = b at *
  have HBB := Lib.hid hb
  have c0 := HB0.out.cell 0
  have c1 := HB0.out.cell 1
  have c2 := HB0.out.cell 2
  clear h hw0 hb
  go_enter Try.func9, Try.ntmps9
  by_cases hk0 : kind = 0
  · subst hk0
    go_wp2_with fail
    rw [HBB.out, ← HW.out]
    clear c0 c1 c2
    refine drawn_region (fun V => V.cell? ⟨b, 1, none⟩ = some (.int .i64 lane) ∧ V.cell? ⟨b, 2, none⟩ = some (.int .i64 x)) [] (by kernel_rfl) ?_
    have HD : Hid (Two8 w g ar cs g2 ar2 room LL LL (World.drew w0)) := H0.out.later (Turn.refl _ w0).drew
    have HBD : Hid (Box (World.drew w0) b 33 #[.int .i64 0, .int .i64 lane, .int .i64 x]) := HB0.out.turn (Turn.refl (fun _ => False) w0).drew (fun f => f)
    generalize World.drew w0 = wd at *
    have hS0 : wd.cell? ⟨b, 1, none⟩ = some (.int .i64 lane) ∧ wd.cell? ⟨b, 2, none⟩ = some (.int .i64 x) := ⟨HBD.out.cell 1, HBD.out.cell 2⟩
    refine drawn_take 0 21 (.pointer (some ⟨g, 0, none⟩)) rfl rfl (by kernel_rfl) (by kernel_rfl) (by kernel_rfl) (by kernel_rfl) (fun _ _ _ h => h) (by rfl) (by assumption) (by intro w hSw; obtain ⟨hS1, hS2⟩ := hSw; go_simp) ?_
    try simp only [List.setIfInBounds_toArray, List.set_cons_zero, List.set_cons_succ]
    refine drawn_take 1 22 (.pointer (some ⟨b, 1, none⟩)) rfl rfl (by kernel_rfl) (by kernel_rfl) (by kernel_rfl) (by kernel_rfl) (fun _ _ _ h => h) (by rfl) (by assumption) (by intro w hSw; obtain ⟨hS1, hS2⟩ := hSw; go_simp) ?_
    try simp only [List.setIfInBounds_toArray, List.set_cons_zero, List.set_cons_succ]
    refine drawn_take 2 23 (.int .i64 lane) rfl rfl (by kernel_rfl) (by kernel_rfl) (by kernel_rfl) (by kernel_rfl) (fun _ _ _ h => h) (by rfl) (by assumption) (by intro w hSw; obtain ⟨hS1, hS2⟩ := hSw; go_simp) ?_
    try simp only [List.setIfInBounds_toArray, List.set_cons_zero, List.set_cons_succ]
    refine drawn_take 3 24 (.pointer (some ⟨b, 2, none⟩)) rfl rfl (by kernel_rfl) (by kernel_rfl) (by kernel_rfl) (by kernel_rfl) (fun _ _ _ h => h) (by rfl) (by assumption) (by intro w hSw; obtain ⟨hS1, hS2⟩ := hSw; go_simp) ?_
    try simp only [List.setIfInBounds_toArray, List.set_cons_zero, List.set_cons_succ]
    refine drawn_take 4 25 (.int .i64 x) rfl rfl (by kernel_rfl) (by kernel_rfl) (by kernel_rfl) (by kernel_rfl) (fun _ _ _ h => h) (by rfl) (by assumption) (by intro w hSw; obtain ⟨hS1, hS2⟩ := hSw; go_simp) ?_
    try simp only [List.setIfInBounds_toArray, List.set_cons_zero, List.set_cons_succ]
    refine drawn_take 6 27 (.pointer (some ⟨g2, 0, none⟩)) rfl rfl (by kernel_rfl) (by kernel_rfl) (by kernel_rfl) (by kernel_rfl) (fun _ _ _ h => h) (by rfl) (by assumption) (by intro w hSw; obtain ⟨hS1, hS2⟩ := hSw; go_simp) ?_
    try simp only [List.setIfInBounds_toArray, List.set_cons_zero, List.set_cons_succ]
    refine drawn_take 7 28 (.pointer (some ⟨b, 1, none⟩)) rfl rfl (by kernel_rfl) (by kernel_rfl) (by kernel_rfl) (by kernel_rfl) (fun _ _ _ h => h) (by rfl) (by assumption) (by intro w hSw; obtain ⟨hS1, hS2⟩ := hSw; go_simp) ?_
    try simp only [List.setIfInBounds_toArray, List.set_cons_zero, List.set_cons_succ]
    refine drawn_take 8 29 (.int .i64 lane) rfl rfl (by kernel_rfl) (by kernel_rfl) (by kernel_rfl) (by kernel_rfl) (fun _ _ _ h => h) (by rfl) (by assumption) (by intro w hSw; obtain ⟨hS1, hS2⟩ := hSw; go_simp) ?_
    try simp only [List.setIfInBounds_toArray, List.set_cons_zero, List.set_cons_succ]
    refine drawn_take 9 30 (.pointer (some ⟨b, 2, none⟩)) rfl rfl (by kernel_rfl) (by kernel_rfl) (by kernel_rfl) (by kernel_rfl) (fun _ _ _ h => h) (by rfl) (by assumption) (by intro w hSw; obtain ⟨hS1, hS2⟩ := hSw; go_simp) ?_
    try simp only [List.setIfInBounds_toArray, List.set_cons_zero, List.set_cons_succ]
    refine drawn_take 10 31 (.int .i64 x) rfl rfl (by kernel_rfl) (by kernel_rfl) (by kernel_rfl) (by kernel_rfl) (fun _ _ _ h => h) (by rfl) (by assumption) (by intro w hSw; obtain ⟨hS1, hS2⟩ := hSw; go_simp) ?_
    try simp only [List.setIfInBounds_toArray, List.set_cons_zero, List.set_cons_succ]
    refine drawn_any [5] (by kernel_rfl) (by simp) ?_
    refine drawn_cons rfl (fun K hK => ?_) drawn_nil
    go_simp
    refine (two_put lane x HD.out).mono ?_
    rintro e w2 ⟨rfl, h2, k2⟩
    have H2 := Lib.hid h2
    have HB2 := Lib.hid (k2.acts _ _ HBD.out)
    have hS2 : w2.cell? ⟨b, 1, none⟩ = some (.int .i64 lane) ∧ w2.cell? ⟨b, 2, none⟩ = some (.int .i64 x) := ⟨HB2.out.cell 1, HB2.out.cell 2⟩
    refine hK.out _ _ _ hS2 ?_
    clear hK K hS0 h2 k2 hS2
    try simp only [List.setIfInBounds_toArray, List.set_cons_zero, List.set_cons_succ]
    refine drawn_any [11] (by kernel_rfl) (by simp) ?_
    refine drawn_cons rfl (fun K hK => ?_) drawn_nil
    go_simp
    refine (two_rput lane x H2.out).mono ?_
    rintro e w3 ⟨rfl, h3, k3⟩
    have H3 : Hid (Run8 w g ar cs g2 ar2 room w3) := ⟨_, h3⟩
    have hb3 := k3.acts _ _ HB2.out
    have hS3 : w3.cell? ⟨b, 1, none⟩ = some (.int .i64 lane) ∧ w3.cell? ⟨b, 2, none⟩ = some (.int .i64 x) := ⟨hb3.cell 1, hb3.cell 2⟩
    refine hK.out _ _ _ hS3 ?_
    clear hK K h3 k3 hb3 H2 HD
    generalize putF room LL lane = pf
    try simp only [List.setIfInBounds_toArray, List.set_cons_zero, List.set_cons_succ]
    refine drawn_take 12 33 (.bool true) rfl rfl (by kernel_rfl) (by kernel_rfl) (by kernel_rfl) (by kernel_rfl) (fun _ _ _ h => h) (by rfl) (by assumption) (by intro w hSw; obtain ⟨hS1, hS2⟩ := hSw; go_simp) ?_
    try simp only [List.setIfInBounds_toArray, List.set_cons_zero, List.set_cons_succ]
    refine drawn_last1 13 6 (.bool true) rfl rfl (by kernel_rfl) (by kernel_rfl) (by rfl) (by intro w; go_simp) hS3 ?_
    try simp only [List.setIfInBounds_toArray, List.set_cons_zero, List.set_cons_succ]
    clear hS3
    go_wp2
    go_ret
    exact ⟨rfl, H3.out⟩
  · by_cases hk1 : kind = 1
    · subst hk1
      go_wp2_with fail
      rw [HBB.out, ← HW.out]
      clear c0 c1 c2
      refine (two_take H0.out).mono ?_
      rintro e w2 ⟨rfl, h2, k2⟩
      have H2 := Lib.hid h2
      clear h2 k2
      go_wp2_with fail
      refine (two_rtake H2.out).mono ?_
      rintro e w3 ⟨rfl, h3, k3⟩
      have H3 : Hid (Run8 w g ar cs g2 ar2 room w3) := ⟨_, h3⟩
      clear h3 k3 H2
      generalize takeI LL = ti
      generalize takeX LL = tx
      generalize takeB LL = tb
      cases tb
      · go_wp2
        go_ret
        exact ⟨rfl, H3.out⟩
      · go_wp2
        go_ret
        exact ⟨rfl, H3.out⟩
    · by_cases hk2 : kind = 2
      · subst hk2
        go_wp2_with fail
        rw [HBB.out, ← HW.out]
        refine (two_from lane H0.out).mono ?_
        rintro e w2 ⟨rfl, h2, k2⟩
        have H2 := Lib.hid h2
        have d1 := (k2.acts _ _ HB0.out).cell 1
        clear h2 k2 c0 c1 c2
        go_wp2_with fail
        refine (two_rfrom lane H2.out).mono ?_
        rintro e w3 ⟨rfl, h3, k3⟩
        have H3 : Hid (Run8 w g ar cs g2 ar2 room w3) := ⟨_, h3⟩
        clear h3 k3 H2 d1
        generalize fromX LL lane = fx
        generalize fromB LL lane = fb
        cases fb
        · go_wp2
          go_ret
          exact ⟨rfl, H3.out⟩
        · go_wp2
          go_ret
          exact ⟨rfl, H3.out⟩
      · have hk00 : (kind == 0) = false := by simpa using hk0
        have hk11 : (kind == 1) = false := by simpa using hk1
        have hk22 : (kind == 2) = false := by simpa using hk2
        go_wp2_with fail
        rw [HBB.out, ← HW.out]
        clear c0 c1 c2
        refine drawn_region (fun V => V.cell? ⟨b, 1, none⟩ = some (.int .i64 lane)) [] (by kernel_rfl) ?_
        have HD : Hid (Two8 w g ar cs g2 ar2 room LL LL (World.drew w0)) := H0.out.later (Turn.refl _ w0).drew
        have HBD : Hid (Box (World.drew w0) b 33 #[.int .i64 kind, .int .i64 lane, .int .i64 x]) := HB0.out.turn (Turn.refl (fun _ => False) w0).drew (fun f => f)
        generalize World.drew w0 = wd at *
        have hS0 : wd.cell? ⟨b, 1, none⟩ = some (.int .i64 lane) := HBD.out.cell 1
        refine drawn_take 0 85 (.pointer (some ⟨g, 0, none⟩)) rfl rfl (by kernel_rfl) (by kernel_rfl) (by kernel_rfl) (by kernel_rfl) (fun _ _ _ h => h) (by rfl) (by assumption) (by intro w hSw; obtain hS1 := hSw; go_simp) ?_
        try simp only [List.setIfInBounds_toArray, List.set_cons_zero, List.set_cons_succ]
        refine drawn_take 1 86 (.pointer (some ⟨b, 1, none⟩)) rfl rfl (by kernel_rfl) (by kernel_rfl) (by kernel_rfl) (by kernel_rfl) (fun _ _ _ h => h) (by rfl) (by assumption) (by intro w hSw; obtain hS1 := hSw; go_simp) ?_
        try simp only [List.setIfInBounds_toArray, List.set_cons_zero, List.set_cons_succ]
        refine drawn_take 2 87 (.int .i64 lane) rfl rfl (by kernel_rfl) (by kernel_rfl) (by kernel_rfl) (by kernel_rfl) (fun _ _ _ h => h) (by rfl) (by assumption) (by intro w hSw; obtain hS1 := hSw; go_simp) ?_
        try simp only [List.setIfInBounds_toArray, List.set_cons_zero, List.set_cons_succ]
        refine drawn_take 4 89 (.pointer (some ⟨g2, 0, none⟩)) rfl rfl (by kernel_rfl) (by kernel_rfl) (by kernel_rfl) (by kernel_rfl) (fun _ _ _ h => h) (by rfl) (by assumption) (by intro w hSw; obtain hS1 := hSw; go_simp) ?_
        try simp only [List.setIfInBounds_toArray, List.set_cons_zero, List.set_cons_succ]
        refine drawn_take 5 90 (.pointer (some ⟨b, 1, none⟩)) rfl rfl (by kernel_rfl) (by kernel_rfl) (by kernel_rfl) (by kernel_rfl) (fun _ _ _ h => h) (by rfl) (by assumption) (by intro w hSw; obtain hS1 := hSw; go_simp) ?_
        try simp only [List.setIfInBounds_toArray, List.set_cons_zero, List.set_cons_succ]
        refine drawn_take 6 91 (.int .i64 lane) rfl rfl (by kernel_rfl) (by kernel_rfl) (by kernel_rfl) (by kernel_rfl) (fun _ _ _ h => h) (by rfl) (by assumption) (by intro w hSw; obtain hS1 := hSw; go_simp) ?_
        try simp only [List.setIfInBounds_toArray, List.set_cons_zero, List.set_cons_succ]
        refine drawn_any [3] (by kernel_rfl) (by simp) ?_
        refine drawn_cons rfl (fun K hK => ?_) drawn_nil
        go_simp
        refine (two_drain lane HD.out).mono ?_
        rintro e w2 ⟨v1, rfl, r1, h2, k2⟩
        have H2 := Lib.hid h2
        have HB2 := Lib.hid (k2.acts _ _ HBD.out)
        have HR1 := Lib.hid r1
        have hS2 : w2.cell? ⟨b, 1, none⟩ = some (.int .i64 lane) := HB2.out.cell 1
        refine hK.out _ _ _ hS2 ?_
        clear hK K hS0 h2 k2 r1 hS2
        try simp only [List.setIfInBounds_toArray, List.set_cons_zero, List.set_cons_succ]
        refine drawn_any [7] (by kernel_rfl) (by simp) ?_
        refine drawn_cons rfl (fun K hK => ?_) drawn_nil
        go_simp
        refine (two_rdrain lane H2.out).mono ?_
        rintro e w3 ⟨v2, rfl, r2, h3, k3⟩
        have H3 := Lib.hid h3
        have HB3 := Lib.hid (k3.acts _ _ HB2.out)
        have HR2 := Lib.hid r2
        have HR13 := Lib.hid (k3.nums _ _ HR1.out)
        have hS3 : w3.cell? ⟨b, 1, none⟩ = some (.int .i64 lane) := HB3.out.cell 1
        refine hK.out _ _ _ hS3 ?_
        clear hK K h3 k3 r2 hS3
        try simp only [List.setIfInBounds_toArray, List.set_cons_zero, List.set_cons_succ]
        refine drawn_any [8] (by kernel_rfl) (by simp) ?_
        refine drawn_cons rfl (fun K hK => ?_) drawn_nil
        go_simp
        refine (same_refl8 _ _ _ w3 HR13.out HR2.out (Nat.le_trans (drain_len LL lane H0.out.p.full) (Nat.le_trans H0.out.p.small (by omega)))).mono ?_
        rintro e w4 ⟨rfl, t4⟩
        have H4 : Hid (Run8 w g ar cs g2 ar2 room w4) := ⟨_, H3.out.later t4⟩
        have hS4 : w4.cell? ⟨b, 1, none⟩ = some (.int .i64 lane) := (HB3.out.turn t4 (fun f => f)).cell 1
        refine hK.out _ _ _ hS4 ?_
        clear hK K t4
        try simp only [List.setIfInBounds_toArray, List.set_cons_zero, List.set_cons_succ]
        refine drawn_last1 9 6 (.bool true) rfl rfl (by kernel_rfl) (by kernel_rfl) (by rfl) (by intro w; go_simp) hS4 ?_
        try simp only [List.setIfInBounds_toArray, List.set_cons_zero, List.set_cons_succ]
        clear hS4
        go_wp2
        go_ret
        exact ⟨rfl, H4.out⟩

end Go.Proofs.Ytemcijfakimkkaa
