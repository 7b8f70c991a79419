
/-
  Stage 9: the document's Compare, Check, All.
-/
import Derived.Test.YtejilonhdgfkbaaZb
namespace Go.Proofs.Ytejilonhdgfkbaa
open Go.RowKit

set_option maxRecDepth 100000

set_option maxHeartbeats 4000000 in
theorem ref_compare9 (p q : K9) (w : World) : Calls Try.prog 9 #[kv9 p, kv9 q] w fun e w' => e = .returned (.int .i64 (cmpK p q)) ∧ Turn (fun _ => False) w w' := by
  unfold kv9
  obtain ⟨w0, hw0⟩ : ∃ w0, w0 = (w.alloc (.cells #[.int .i64 p.h, sv9 p.a, sv9 p.b, sv9 p.c, sv9 p.d] 24)).alloc (.cells #[.int .i64 q.h, sv9 q.a, sv9 q.b, sv9 q.c, sv9 q.d] 24) := ⟨_, rfl⟩
  have HT0 : Hid (Turn (fun _ => False) w w0) := by rw [hw0]; exact ((Turn.refl _ w).alloc _).alloc _
  have hb1 : Box w0 w.heap.size 24 #[.int .i64 p.h, sv9 p.a, sv9 p.b, sv9 p.c, sv9 p.d] := by rw [hw0]; exact (Box.new w _ _).alloc _
  have hb2 : Box w0 (w.heap.size + 1) 24 #[.int .i64 q.h, sv9 q.a, sv9 q.b, sv9 q.c, sv9 q.d] := by
    rw [hw0]
    have h := Box.new (w.alloc (.cells #[.int .i64 p.h, sv9 p.a, sv9 p.b, sv9 p.c, sv9 p.d] 24)) 24 #[.int .i64 q.h, sv9 q.a, sv9 q.b, sv9 q.c, sv9 q.d]
    rw [World.size_alloc] at h
    exact h
  have HD1 := Lib.hid (dim_cell (o := 1) hb1 key_cells)
  have HD2 := Lib.hid (dim_cell (o := 1) hb2 key_cells)
  have c1 := hb1.cell 0
  have c2 := hb2.cell 0
  have HW := Lib.hid hw0
  clear hb1 hb2 hw0
  by_cases h1 : p.h < q.h
  · rw [cmpK_lt (key_hour h1)]
    have hne : (p.h == q.h) = false := by simp; omega
    go_enter Try.func9, Try.ntmps9
    go_wp2_with fail
    rw [← HW.out]
    go_ret
    exact ⟨rfl, HT0.out⟩
  · by_cases h2 : q.h < p.h
    · rw [cmpK_gt (key_hour h2)]
      have hne : (p.h == q.h) = false := by simp; omega
      go_enter Try.func9, Try.ntmps9
      go_wp2_with fail
      rw [← HW.out]
      go_ret
      exact ⟨rfl, HT0.out⟩
    · have h0 : p.h = q.h := by omega
      have HW2 : Hid (w0 = (w.alloc (.cells #[.int .i64 q.h, sv9 p.a, sv9 p.b, sv9 p.c, sv9 p.d] 24)).alloc (.cells #[.int .i64 q.h, sv9 q.a, sv9 q.b, sv9 q.c, sv9 q.d] 24)) := by rw [← h0]; rw [← h0] at HW; exact HW.out
      have hne : (p.h == q.h) = true := by simp; omega
      go_enter Try.func9, Try.ntmps9
      go_wp2_with fail
      rw [← HW2.out]
      clear c1 c2
      go_loopw [5] (fun x5 wr => ∃ i : Nat, x5 = .int .i64 (i : Int) ∧ i ≤ 4 ∧ (∀ k, k < i → p.dim k = q.dim k) ∧ ∃ n, wr = w0.drewN n) (fun x5 _ => 4 - (intOf x5).toNat)
      case atStart => exact ⟨0, rfl, Nat.zero_le _, fun k hk => absurd hk (Nat.not_lt_zero k), 0, rfl⟩
      case round =>
        obtain ⟨i, rfl, hi, he, n, rfl⟩ := hrel
        have HE := Lib.hid he
        clear he
        by_cases hlt : i < 4
        · have e1 := HD1.out i hlt
          have e2 := HD2.out i hlt
          have hil : (i : Int) < 4 := by omega
          unfold sv9 at e1 e2
          by_cases hl : Op.bytesLess (p.dim i) (q.dim i) = true
          · have HK := Lib.hid (cmpK_lt (key_dim hlt h0 HE.out hl))
            go_wp2_with fail
            go_quiet (fail)
            go_wp2
            go_ret
            rw [HK.out]
            exact ⟨rfl, (HT0.out.drewN _).drewN _⟩
          · have hl' : Op.bytesLess (p.dim i) (q.dim i) = false := by simpa using hl
            by_cases hg : Op.bytesLess (q.dim i) (p.dim i) = true
            · have HK := Lib.hid (cmpK_gt (key_dim hlt h0.symm (fun k hk => (HE.out k hk).symm) hg))
              have heq : (p.dim i == q.dim i) = false := by
                cases e : p.dim i == q.dim i with
                | false => rfl
                | true =>
                  rw [eq_of_beq e, less_irr] at hg
                  cases hg
              go_wp2_with fail
              go_quiet (fail)
              go_wp2_with fail
              go_quiet (fail)
              go_wp2
              go_ret
              rw [HK.out]
              exact ⟨rfl, ((HT0.out.drewN _).drewN _).drewN _⟩
            · have hg' : Op.bytesLess (q.dim i) (p.dim i) = false := by simpa using hg
              have HS := Lib.hid (bytes_same hl' hg')
              have heq : (p.dim i == q.dim i) = true := by rw [HS.out]; exact beq_self_eq_true _
              go_wp2_with fail
              go_quiet (fail)
              rename_i nq1
              go_wp2_with fail
              go_quiet (fail)
              go_wp2
              go_roundw
              case rel => exact ⟨i + 1, by go_num, hlt, fun k hk => by
                by_cases ek : k = i
                · rw [ek]; exact HS.out
                · exact HE.out k (by omega), _, rfl⟩
              case measure => simp [intOf]; omega
        · obtain rfl : i = 4 := by omega
          have HK := Lib.hid (key_same h0 HE.out)
          go_wp2
          go_ret
          rw [HK.out, cmpK_self]
          exact ⟨rfl, HT0.out.drewN _⟩

end Go.Proofs.Ytejilonhdgfkbaa
