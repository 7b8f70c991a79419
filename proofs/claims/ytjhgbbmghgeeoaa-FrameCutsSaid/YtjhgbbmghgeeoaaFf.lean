
/-
  Frames by a range over a function: the iterator, and how many bytes all have.
-/
import Derived.Test.YtjhgbbmghgeeoaaFd
import Derived.Test.YtjhgbbmghgeeoaaIb
namespace Go.Proofs.Ytjhgbbmghgeeoaa
open Go.RowKit Go.Shelf
attribute [local go_sem] Oper.semAt_some

/-- A frame that has come: its place, its payload, and the slice in which that lies. -/
abbrev Fr : Type := (Nat × List UInt8) × (Option Addr × Nat)
abbrev frs (x : Fr) : Array Value := #[.int .i64 (x.1.1 : Int), .slice x.2.1 x.1.2.length x.2.2]
def frGv (l : List UInt8) (pre : List Fr) (x : Fr) (W : World) : Prop := Rd W (.slice x.2.1 x.1.2.length x.2.2) x.1.2 ∧ (pre ++ [x]).map (·.1) <+: allOf l
def frAll (l : List UInt8) (xs : List Fr) : Prop := xs.map (·.1) = allOf l
def frPart (l : List UInt8) (xs : List Fr) : Prop := xs.map (·.1) <+: allOf l

theorem frGv_holds (D : Nat) (l : List UInt8) (pre : List Fr) : Holds D (frGv l pre) := fun _ _ _ hs ht => ⟨hs.1.odd ht, hs.2⟩

set_option maxRecDepth 100000 in
set_option maxHeartbeats 400000 in
theorem each_any (v : Value) (l : List UInt8) (w : World) (hv : Rd w v l) (hl : l.length ≤ 1000000) :
    Calls Try.prog 8 #[v] w fun e w' => ∃ q u, e = .returned (.func (.func 15) #[] #[.pointer (some ⟨q, 0, none⟩)]) ∧ Box w' q 22 #[u] ∧ By w' u l ∧ Turn (fun _ => False) w w' ∧
      w.heap.size ≤ q ∧ ∀ k, u.ownBlock = some k → w.heap.size ≤ k := by
  have HV := Lib.hid hv; clear hv
  go_enter Try.func8, Try.ntmps8
  go_wp2_with (go_at_call 14; refine (clone_any v l w HV.out hl).mono ?_; rintro e w1 ⟨u, rfl, hb, ht, hk⟩; obtain ⟨A, c, hu⟩ := hb.shape; subst hu; have HB := Lib.hid hb; clear hb; have HT := Lib.hid ht; clear ht; have HK := Lib.hid hk; clear hk)
  go_ret
  exact ⟨w1.heap.size, .slice A l.length c, rfl, Box.new _ _ _, HB.out.alloc _, HT.out.alloc _, HT.out.size, HK.out⟩

/-- What is left of bytes from i on. -/
theorem slice_from {w : World} {A : Option Addr} {n c : Nat} {l : List UInt8} (hv : Rd w (.slice A n c) l) (i : Nat) (hi : i ≤ l.length) :
    ∃ D, (∀ W, (Instr.slice 22 (.slice A n c) (some (.int .i64 (i : Int))) none none).run Try.prog W = .ok (.slice D (n - i) (c - i)) W) ∧ Rd w (.slice D (n - i) (c - i)) (l.drop i) := by
  obtain ⟨rfl, h1, h2⟩ := hv.fits
  have hm : c ≤ 9223372036854775807 := by unfold maxLen at h2; omega
  refine ⟨if c = i then A else A.map fun a => a.add i, fun W => ?_, ?_⟩
  · have h := run_slice_l (P := Try.prog) (w := W) 22 A l.length c Try.underlying22 .i64 (i : Int) (by omega) (by omega)
    rw [h]
    by_cases hc : c = i
    · simp [go_sem, hc]
    · simp [go_sem, hc]
  · by_cases hc : c = i
    · have e : l.length - i = 0 := by omega
      rw [List.drop_eq_nil_of_le (by omega), if_pos hc, e]
      exact ⟨A, c - i, rfl, ⟨Nat.zero_le _, by omega⟩, fun _ => ⟨rfl, by omega⟩, fun _ _ j b hj => by simp at hj⟩
    · rw [if_neg hc]
      cases A with
      | none =>
        obtain ⟨A', c', e, _, hn, _⟩ := hv
        injection e with e1 e2 e3
        subst e1 e3
        obtain ⟨rfl, rfl⟩ := hn rfl
        exact absurd (show (0 : Nat) = i by simp at hi; omega) hc
      | some ad => exact hv.back i hi

structure EachRel (l : List UInt8) (q : Nat) (u : Value) (J : List Fr → World → Prop) (i : Nat) (pre : List Fr) (wr : World) : Prop where
  hi : i ≤ l.length
  hd : pre.map (·.1) ++ allF (l.length - i + 1) i (l.drop i) = allOf l
  hj : J pre wr
  hq : Box wr q 22 #[u]
  hu : Rd wr u l

theorem each_step {l : List UInt8} {q : Nat} {u : Value} {J : List Fr → World → Prop} {i : Nat} {pre : List Fr} {wr : World} (h : EachRel l q u J i pre wr) {p : List UInt8} {n : Nat} (htk : takes (l.drop i) = (p, n, 0)) :
    5 ≤ n ∧ n = sz p.length ∧ i + n ≤ l.length ∧ ∀ x : Fr, x.1 = (i, p) → (pre ++ [x]).map (·.1) ++ allF (l.length - (i + n) + 1) (i + n) (l.drop (i + n)) = allOf l := by
  have e0 : (takes (l.drop i)).2.2 = 0 := by rw [htk]
  have hs := takes_sz (l.drop i) e0
  rw [htk] at hs
  have hsz : n = sz p.length := hs.1
  have hle : n ≤ (l.drop i).length := hs.2.1
  have hpos := sz_pos p.length
  have h1 := h.hi
  rw [List.length_drop] at hle
  refine ⟨by omega, hsz, by omega, fun x hx => ?_⟩
  rw [← h.hd, List.map_append, List.append_assoc]
  congr 1
  rw [allF_step e0, htk]
  show [x.1] ++ _ = (i, p) :: allF (l.length - i) (i + n) ((l.drop i).drop n)
  rw [List.drop_drop, allF_fuel (l.length - i) (l.length - (i + n) + 1) _ _ (by rw [List.length_drop]; omega) (by rw [List.length_drop]; omega), hx]
  rfl

set_option maxRecDepth 100000 in
set_option maxHeartbeats 2000000 in
theorem frames_give (n : Nat) (hn : 1 ≤ n) (q : Nat) (u : Value) (l : List UInt8) (w : World) (hq : Box w q 22 #[u]) (hu : Rd w u l) (hl : l.length ≤ 1000000) (S : Nat → Prop) (hSq : ¬ S q) (hSu : ∀ k, u.ownBlock = some k → ¬ S k) :
    Gives n 15 #[.pointer (some ⟨q, 0, none⟩)] frs S (frGv l) (frAll l) (frPart l) w := fun l0 J Jx W hW hJ hJx hY h0 => by
  have HQ := Lib.hid (hq.turn hW (fun f => f))
  have HU := Lib.hid (hu.later hW)
  have HY := Lib.hid hY; clear hY
  have HJ := Lib.hid hJ; clear hJ hJx
  have HSQ := Lib.hid hSq; clear hSq
  have HSU := Lib.hid hSu; clear hSu
  have H0 := Lib.hid h0; clear h0 hq hW
  obtain ⟨A, c, rfl, hcc, hxx⟩ := hu
  have hcap : c ≤ 9223372036854775807 := by have := hcc.2; unfold maxLen at this; omega
  have hcl := hcc.1
  clear hcc hxx
  refine callsIn_of_wp Try.func15 rfl trivial ?_ rfl
  simp only [Try.ntmps15, List.size_toArray, List.length_cons, List.length_nil, Nat.reduceAdd, Nat.reduceSub, Array.replicate_succ, Array.replicate_zero, List.push_toArray, List.append_toArray, List.nil_append, List.cons_append]
  gi_wp2
  gi_loopw [3] (fun x wr => ∃ (i : Nat) (pre : List Fr), x = .int .i64 (i : Int) ∧ EachRel l q (.slice A l.length c) J i pre wr) (fun x _ => l.length - (intOf x).toNat)
  case atStart => exact ⟨0, [], rfl, ⟨Nat.zero_le _, rfl, H0.out, HQ.out, HU.out⟩⟩
  case round =>
    obtain ⟨i, pre, rfl, hr⟩ := hrel
    have HR := Lib.hid hr
    have hil := hr.hi
    have hcell : wr.cell? ⟨q, 0, none⟩ = some (.slice A l.length c) := hr.hq.cell 0
    have HV := Lib.hid hr.hu
    clear hr
    have HDL : Hid ((l.drop i).length = l.length - i) := List.length_drop
    obtain ⟨⟨p, n1, f⟩, hq1⟩ : ∃ x, x = takes (l.drop i) := ⟨_, rfl⟩
    obtain ⟨D, hsl, hrd⟩ := slice_from HV.out i hil
    have HB := Lib.hid hrd; clear hrd
    have HTP : Hid (∀ e W', TakePost wr (l.drop i) e W' → ∃ A c, e = .returned (.tuple #[.slice A p.length c, .int .i64 n1, .int .i64 f]) ∧ Rd W' (.slice A p.length c) p ∧ Turn (fun _ => False) wr W') := by
      rintro e W' ⟨v', he, hr, ht⟩
      rw [← hq1] at he hr
      obtain ⟨A, c, rfl⟩ := Rd.shape hr
      exact ⟨A, c, he, hr, ht⟩
    by_cases hf : f = 0
    · subst hf
      obtain ⟨h5, hsz, hin, hst⟩ := each_step HR.out hq1.symm
      have HST := Lib.hid hst; have H5 := Lib.hid h5
      clear hst h5 hsz hq1
      gi_wp2_with (refine ⟨trivial, ?_⟩; gi_at_call 11; refine (callsIn_wide.2 (frame_take _ (l.drop i) wr HB.out (by rw [HDL.out]; omega))).mono ?_; intro e w1 hp; obtain ⟨Au, cu, rfl, hr1, ht1⟩ := HTP.out _ _ hp; have hjj := HJ.out _ _ _ HR.out.hj ht1.none; obtain ⟨fn, tm, asg, bo, hy, hrr⟩ := HY.out pre ((i, p), (Au, cu)) w1 hjj ⟨hr1, _, HST.out _ rfl⟩; have HR1 := Lib.hid hr1; have HT1 := Lib.hid ht1; have HRR := Lib.hid hrr; clear hp hr1 ht1 hjj hrr; dsimp only [frs] at hy)
      refine HRR.out.mono ?_
      rintro e w2 (⟨rfl, hj2, hk2⟩ | ⟨rfl, hx2⟩)
      · have HJ2 := Lib.hid hj2
        have HK2 := Lib.hid hk2
        clear hj2 hk2
        gi_wp2
        go_roundw
        case rel => exact ⟨i + n1, pre ++ [((i, p), (Au, cu))], by go_num, ⟨hin, HST.out _ rfl, HJ2.out, (HR.out.hq.turn HT1.out (fun f => f)).turn HK2.out HSQ.out, (HR.out.hu.later HT1.out).turn HK2.out HSU.out⟩⟩
        case measure => have := H5.out; simp [intOf]; omega
      · have HX2 := Lib.hid hx2
        clear hx2
        gi_wp2
        refine bodyPost_ret (results_none rfl _ _ _) rfl ?_
        exact ⟨⟨_, rfl⟩, .inr ⟨pre ++ [((i, p), (Au, cu))], ⟨_, HST.out _ rfl⟩, HX2.out⟩⟩
    · have hf2 : (((f : Int) == 0) = false) := by rw [beq_eq_false_iff_ne]; omega
      have hf3 : (((f : Int) != 0) = true) := by rw [bne_iff_ne]; omega
      have HALL : Hid (pre.map (·.1) = allOf l) := by
        have h := HR.out.hd
        rw [allF_stop (by rw [← hq1]; exact hf), List.append_nil] at h
        exact h
      clear hq1 hf
      gi_wp2_with (refine ⟨trivial, ?_⟩; gi_at_call 11; refine (callsIn_wide.2 (frame_take _ (l.drop i) wr HB.out (by rw [HDL.out]; omega))).mono ?_; intro e w1 hp; obtain ⟨Au, cu, rfl, hr1, ht1⟩ := HTP.out _ _ hp; have HR1 := Lib.hid hr1; have HT1 := Lib.hid ht1; clear hp hr1 ht1)
      refine ⟨fun _ h => (by cases h), ?_⟩
      gi_wp2
      refine bodyPost_ret (results_none rfl _ _ _) rfl ?_
      exact ⟨⟨_, rfl⟩, .inl ⟨pre, HALL.out, HJ.out _ _ _ HR.out.hj HT1.out.none⟩⟩

end Go.Proofs.Ytjhgbbmghgeeoaa
