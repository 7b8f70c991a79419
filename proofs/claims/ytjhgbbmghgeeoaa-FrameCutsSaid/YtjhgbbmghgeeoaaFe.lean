
/-
  All frames with which bytes begin, as the document has them: their places, their payloads, and where they end.
-/
import Derived.Test.YtjhgbbmghgeeoaaFd
import Derived.Test.YtjhgbbmghgeeoaaIb
namespace Go.Proofs.Ytjhgbbmghgeeoaa
open Go.RowKit

theorem endOf_snoc : ∀ (i j : Nat) (p : List UInt8) (xs : List (Nat × List UInt8)), endOf i (xs ++ [(j, p)]) = j + sz p.length
  | _, _, _, [] => rfl
  | _, j, p, x :: t => endOf_snoc (x.1 + sz x.2.length) j p t

structure AllRel (w : World) (l : List UInt8) (wr : World) (x5 x6 : Value) (i : Nat) (done : List (Nat × List UInt8)) (us : List Value) : Prop where
  hi : i ≤ l.length
  hd : done ++ allF (l.length - i + 1) i (l.drop i) = allOf l
  he : endOf 0 done = i
  hn : done.length ≤ i
  r5 : Row 3 wr x5 (done.map fun x => nv x.1)
  f5 : ∀ k, x5.ownBlock = some k → w.heap.size ≤ k
  r6 : Row 22 wr x6 us
  f6 : ∀ k, x6.ownBlock = some k → w.heap.size ≤ k
  hu : us.length = done.length
  hk : ∀ (j : Nat) (u : Value) (p : Nat × List UInt8), us[j]? = some u → done[j]? = some p → Rd wr u p.2 ∧ ∀ k, u.ownBlock = some k → k < w.heap.size
  ht : Turn (fun _ => False) w wr

theorem all_start (w : World) (l : List UInt8) : AllRel w l w (.slice none 0 0) (.slice none 0 0) 0 [] [] :=
  ⟨Nat.zero_le _, rfl, rfl, Nat.le_refl _, Row.nil _ _, (fun k h => by cases h), Row.nil _ _, (fun k h => by cases h), rfl, (fun j u p h => by simp at h), Turn.refl _ _⟩

theorem all_done {w wr : World} {l : List UInt8} {x5 x6 : Value} {i : Nat} {done : List (Nat × List UInt8)} {us : List Value} (h : AllRel w l wr x5 x6 i done us) (h0 : (takes (l.drop i)).2.2 ≠ 0) : allOf l = done := by
  rw [← h.hd, allF_stop h0, List.append_nil]

theorem all_next {w wr w1 w2 w3 : World} {l : List UInt8} {x5 x6 u : Value} {i : Nat} {done : List (Nat × List UInt8)} {us : List Value} (h : AllRel w l wr x5 x6 i done us)
    {p : List UInt8} {n : Nat} (hlt : i < l.length) (htk : takes (l.drop i) = (p, n, 0)) (t1 : Turn (fun _ => False) wr w1) (hu : Rd w1 u p) (hub : ∀ k, u.ownBlock = some k → k < w.heap.size)
    {o1 o2 : Obj} {A5 : Option Addr} {n5 c5 : Nat} (r5 : Row 3 w2 (.slice A5 n5 c5) ((done.map fun x => nv x.1) ++ [nv i])) (g5 : (w1.alloc o1).grownBy w2 x5.ownBlock)
    (a5 : (Value.slice A5 n5 c5).ownBlock = x5.ownBlock ∨ (Value.slice A5 n5 c5).ownBlock = some (w1.heap.size + 1))
    {A6 : Option Addr} {n6 c6 : Nat} (r6 : Row 22 w3 (.slice A6 n6 c6) (us ++ [u])) (g6 : (w2.alloc o2).grownBy w3 x6.ownBlock)
    (a6 : (Value.slice A6 n6 c6).ownBlock = x6.ownBlock ∨ (Value.slice A6 n6 c6).ownBlock = some (w2.heap.size + 1)) :
    AllRel w l w3 (.slice A5 n5 c5) (.slice A6 n6 c6) (i + n) (done ++ [(i, p)]) (us ++ [u]) := by
  have e0 : (takes (l.drop i)).2.2 = 0 := by rw [htk]
  have hs := takes_sz (l.drop i) e0
  rw [htk] at hs
  have hsz : n = sz p.length := hs.1
  have hle : n ≤ (l.drop i).length := hs.2.1
  have hpos := sz_pos p.length
  rw [List.length_drop] at hle
  have s1 := h.ht.size
  have s2 := t1.size
  have tA : Turn (fun _ => False) w (w1.alloc o1) := (h.ht.trans t1 (fun _ _ f => f)).alloc o1
  have tB : Turn (fun _ => False) w w2 := tA.grown g5 (fun k hk e => by have := h.f5 k e; omega)
  have tC : Turn (fun _ => False) w (w2.alloc o2) := tB.alloc o2
  have tD : Turn (fun _ => False) w w3 := tC.grown g6 (fun k hk e => by have := h.f6 k e; omega)
  have q5 : Row 3 (w2.alloc o2) (.slice A5 n5 c5) ((done.map fun x => nv x.1) ++ [nv i]) := r5.later ((Turn.refl _ w2).alloc o2)
  have p6 : Row 22 (w1.alloc o1) x6 us := h.r6.later (t1.alloc o1)
  have p5 : Row 3 (w1.alloc o1) x5 (done.map fun x => nv x.1) := h.r5.later (t1.alloc o1)
  have q6 : Row 22 (w2.alloc o2) x6 us := (p6.grown g5 (p6.apart p5 (by decide))).later ((Turn.refl _ w2).alloc o2)
  have hS : ∀ {a b : World} {row : Option Nat}, a.grownBy b row → (∀ k, row = some k → w.heap.size ≤ k) → Turn (fun k => w.heap.size ≤ k) a b := fun hg hr => (Turn.refl _ _).grown hg (fun k _ e => hr k e)
  have tw : Turn (fun k => w.heap.size ≤ k) w1 w3 := (((Turn.refl _ w1).alloc o1).trans ((hS g5 h.f5).alloc o2) (fun _ _ s => s)).trans (hS g6 h.f6) (fun _ _ s => s)
  refine ⟨by omega, ?_, ?_, by simp; have := h.hn; omega, ?_, ?_, r6, ?_, by simp [h.hu], ?_, tD⟩
  · rw [← h.hd, List.append_assoc]
    congr 1
    rw [allF_step e0, htk]
    show [(i, p)] ++ _ = (i, p) :: allF (l.length - i) (i + n) ((l.drop i).drop n)
    rw [List.drop_drop, allF_fuel (l.length - i) (l.length - (i + n) + 1) _ _ (by rw [List.length_drop]; omega) (by rw [List.length_drop]; omega)]
    rfl
  · rw [endOf_snoc, hsz]
  · rw [List.map_append]
    exact q5.grown g6 (q5.apart q6 (by decide))
  · intro k hk
    rcases a5 with e | e
    · exact h.f5 k (by rw [← e]; exact hk)
    · rw [e] at hk
      injection hk with hk
      omega
  · intro k hk
    rcases a6 with e | e
    · exact h.f6 k (by rw [← e]; exact hk)
    · rw [e] at hk
      injection hk with hk
      have := tB.size
      omega
  · intro j v q hj hq
    by_cases hjl : j < us.length
    · rw [List.getElem?_append_left hjl] at hj
      rw [List.getElem?_append_left (by rw [← h.hu]; exact hjl)] at hq
      obtain ⟨h1, h2⟩ := h.hk j v q hj hq
      exact ⟨(h1.later t1).turn tw (fun k hk s => by have := h2 k hk; omega), h2⟩
    · have hj0 : j = us.length := by
        rw [List.getElem?_append_right (by omega)] at hj
        have := (List.getElem?_eq_some_iff.1 hj).1
        simp at this
        omega
      subst hj0
      rw [List.getElem?_append_right (Nat.le_refl _), Nat.sub_self] at hj
      rw [h.hu, List.getElem?_append_right (Nat.le_refl _), Nat.sub_self] at hq
      obtain rfl : u = v := by simpa using hj
      obtain rfl : (i, p) = q := by simpa using hq
      exact ⟨hu.turn tw (fun k hk s => by have := hub k hk; omega), hub⟩

def AllPost (w : World) (l : List UInt8) (e : Ending) (w' : World) : Prop :=
  ∃ v1 v2, e = .returned (.tuple #[v1, v2, .int .i64 (endOf 0 (allOf l))]) ∧ Nums w' v1 ((allOf l).map (·.1)) ∧ Rds w' v2 ((allOf l).map (·.2)) ∧ Turn (fun _ => False) w w'

theorem all_end {w wr : World} {l : List UInt8} {x5 x6 : Value} {i : Nat} {done : List (Nat × List UInt8)} {us : List Value} {c : Int} (h : AllRel w l wr x5 x6 i done us) (h0 : (takes (l.drop i)).2.2 ≠ 0) (hc : c = i) {w' : World}
    (t : Turn (fun _ => False) wr w') : AllPost w l (.returned (.tuple #[x5, x6, .int .i64 c])) w' := by
  have e := all_done h h0
  have r5 := h.r5
  obtain ⟨A, c6, rfl⟩ := h.r6.shape
  refine ⟨_, _, by rw [e, h.he, hc], ?_, ?_, h.ht.trans t (fun _ _ f => f)⟩
  · rw [e]
    refine (Row.nums ?_).later t
    rw [List.map_map]
    exact h.r5
  · rw [e]
    have hb := h.r6.bounds
    refine Rds.later ⟨A, c6, by rw [List.length_map, h.hu], ⟨by rw [List.length_map, ← h.hu]; exact hb.2.1, hb.2.2⟩, fun j q hj => ?_⟩ t
    rw [List.getElem?_map] at hj
    cases hd : done[j]? with
    | none => rw [hd] at hj; cases hj
    | some p =>
      rw [hd] at hj
      obtain rfl : p.2 = q := by simpa using hj
      obtain ⟨u, hu⟩ : ∃ u, us[j]? = some u := ⟨_, List.getElem?_eq_getElem (by rw [h.hu]; exact (List.getElem?_eq_some_iff.1 hd).1)⟩
      obtain ⟨ad, e1, hcell⟩ := h.r6.at hu
      exact ⟨ad, u, e1, hcell, (h.hk j u p hu hd).1⟩

set_option maxRecDepth 100000 in
set_option maxHeartbeats 2000000 in
theorem ref_all (v : Value) (l : List UInt8) (w : World) (hv : Rd w v l) (hl : l.length ≤ 1000000) :
    Calls Try.prog 6 #[v] w (AllPost w l) := by
  have HV := Lib.hid hv
  obtain ⟨A, c, rfl, hcc, hxx⟩ := hv
  have hcap : c ≤ 9223372036854775807 := by have := hcc.2; unfold maxLen at this; omega
  have hcl := hcc.1
  clear hxx hcc
  go_enter Try.func6, Try.ntmps6
  go_wp2
  go_loopw [5, 6, 7] (fun x5 x6 x7 wr => ∃ i done us, x7 = .int .i64 (i : Nat) ∧ AllRel w l wr x5 x6 i done us) (fun _ _ x7 _ => l.length - (intOf x7).toNat)
  case atStart => exact ⟨0, [], [], rfl, all_start w l⟩
  case round =>
    obtain ⟨i, done, us, rfl, hr⟩ := hrel
    have HR := Lib.hid hr
    obtain ⟨A5, c5, h5⟩ := hr.r5.shape
    rw [List.length_map] at h5
    subst h5
    obtain ⟨A6, c6, rfl⟩ := hr.r6.shape
    have hil := hr.hi
    clear hr
    by_cases h : i < l.length
    · obtain ⟨ad, rfl⟩ := HV.out.some_at (by omega)
      have HB := Lib.hid (HV.out.back i hil)
      have hic : ¬ c = i := by omega
      have HBK : Hid (∀ k, (Value.slice (some (ad.add i)) (l.length - i) (c - i)).ownBlock = some k → k < w.heap.size) := by
        intro k hk
        obtain ⟨x, hx⟩ : ∃ x, l[0]? = some x := ⟨_, List.getElem?_eq_getElem (by omega)⟩
        obtain ⟨ad', e, hc⟩ := HV.out.at hx
        cases e
        have hlt := World.block_lt_of_cell? w _ hc
        rw [add_block] at hlt
        have : (ad.add i).block = k := by simpa [Value.ownBlock] using hk
        rw [add_block] at this
        omega
      have HDL : Hid ((l.drop i).length = l.length - i) := List.length_drop
      obtain ⟨⟨p, n, f⟩, hq⟩ : ∃ q, q = takes (l.drop i) := ⟨_, rfl⟩
      have HTP : Hid (∀ e W', TakeAt (fun k => k < w.heap.size) wr (l.drop i) e W' → ∃ A c, e = .returned (.tuple #[.slice A p.length c, .int .i64 n, .int .i64 f]) ∧ Rd W' (.slice A p.length c) p ∧ Turn (fun _ => False) wr W' ∧ ∀ k, (Value.slice A p.length c).ownBlock = some k → k < w.heap.size) := by
        rintro e W' ⟨v', he, hr, ht, hk⟩
        rw [← hq] at he hr
        obtain ⟨A, c, rfl⟩ := Rd.shape hr
        exact ⟨A, c, he, hr, ht, hk⟩
      have HQ := Lib.hid hq.symm
      by_cases hf : f = 0
      · subst hf
        have hnl : n ≤ l.length - i := by
          have := (takes_sz (l.drop i) (by rw [← hq])).2.1
          rw [← hq, List.length_drop] at this
          exact this
        have HNP : Hid (5 ≤ n) := by
          have h1 := (takes_sz (l.drop i) (by rw [← hq])).1
          rw [← hq] at h1
          have h3 : n = sz p.length := h1
          have h2 := sz_pos p.length
          show 5 ≤ n
          omega
        clear hq
        go_wp2_with (first
          | (go_at_call 13; refine (ref_take_at (fun k => k < w.heap.size) _ (l.drop i) wr (HB.out.later HR.out.ht) (by rw [HDL.out]; omega) (by rw [HDL.out]; omega) HBK).mono ?_; intro e w1 hp; obtain ⟨Au, cu, rfl, hr1, ht1, hk1⟩ := HTP.out _ _ hp; have HR1 := Lib.hid hr1; have HT1 := Lib.hid ht1; have HK1 := Lib.hid hk1; clear hp hr1 ht1 hk1)
          | (at_builtin; go_must (refine wpList_push (o := ⟨some 28, _, _, _, _, _⟩) rfl (.tmp 25) (.tmp 27) 24 3 Try.underlying24 int_info rfl (by decide) rfl _ _ rfl (HR.out.r5.later (HT1.out.alloc _)) w1.heap.size (nv i) rfl ((Box.new w1 _ _).cell 0) rfl (by have := HR.out.hn; simp; omega) ?_)))
        intro A7 n7 c7 w2 r7 g7 a7
        have R7 := Lib.hid r7; have G7 := Lib.hid g7; have E7 := Lib.hid a7
        clear r7 g7 a7
        go_wp2_with (at_builtin; go_must (refine wpList_push (o := ⟨some 32, _, _, _, _, _⟩) rfl (.tmp 29) (.tmp 31) 25 22 Try.underlying25 bytes_info rfl (by decide) rfl _ us rfl ?_ w2.heap.size _ rfl ((Box.new w2 _ _).cell 0) rfl (by have := HR.out.hn; have := HR.out.hu; omega) ?_))
        · have p6 := HR.out.r6.later (HT1.out.alloc (.cells #[nv i] 3))
          have p5 := HR.out.r5.later (HT1.out.alloc (.cells #[nv i] 3))
          exact (p6.grown G7.out (p6.apart p5 (by decide))).later ((Turn.refl _ w2).alloc _)
        intro A8 n8 c8 w3 r8 g8 a8
        have HN := Lib.hid (all_next HR.out h HQ.out HT1.out HR1.out HK1.out R7.out G7.out E7.out r8 g8 a8)
        clear r8 g8 a8
        go_wp2
        go_roundw
        case rel => exact ⟨i + n, _, _, by go_num, HN.out⟩
        case measure => have := HNP.out; simp [intOf]; omega
      · have hf2 : (((f : Int) == 0) = false) := by rw [beq_eq_false_iff_ne]; omega
        have hf3 : (((f : Int) != 0) = true) := by rw [bne_iff_ne]; omega
        have H0 : Hid ((takes (l.drop i)).2.2 ≠ 0) := by rw [← hq]; exact hf
        clear hq hf
        go_wp2_with (go_at_call 13; refine (ref_take_at (fun k => k < w.heap.size) _ (l.drop i) wr (HB.out.later HR.out.ht) (by rw [HDL.out]; omega) (by rw [HDL.out]; omega) HBK).mono ?_; intro e w1 hp; obtain ⟨Au, cu, rfl, hr1, ht1, hk1⟩ := HTP.out _ _ hp; have HR1 := Lib.hid hr1; have HT1 := Lib.hid ht1; have HK1 := Lib.hid hk1; clear hp hr1 ht1 hk1)
        go_ret3
        exact all_end HR.out H0.out rfl HT1.out
    · have H0 : Hid ((takes (l.drop i)).2.2 ≠ 0) := by
        rw [List.drop_eq_nil_of_le (by omega)]
        exact takes_nil
      go_wp2
      go_ret3
      exact all_end HR.out H0.out rfl (Turn.refl _ _)

end Go.Proofs.Ytjhgbbmghgeeoaa
