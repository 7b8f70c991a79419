
/-
  A select in a function of one goroutine, where just one case can proceed, or none and there is a default: one step, between two stretches of the usual walk. No type is named here.
-/
import Derived.Conc.LoneSelectN
import Derived.Conc.LoneCalls
import Derived.Calls
import Derived.Tactics
namespace Go.Proofs.Ytemcijfakimkkaa
open Go.RowKit Go.Conc

/-- A stretch of code, in an ordinary call's frame. -/
def NWp (P : Program) (c : Code) (Q : Exit → Act → World → Prop) (a : Act) (w : World) : Prop :=
  ∀ (b : Frame) (k : List Item) (cs : List Frame), b.kind ≠ .early → ∃ e a' w', Q e a' w' ∧ Arrives P (lone (b.at a (.code c :: k)) cs w) b k cs e a' w'
section
variable {P : Program} {Q : Exit → Act → World → Prop} {a : Act} {w : World}
theorem NWp.of_wp {c : Code} (h : c.wp P Q a w) : NWp P c Q a w := fun b k cs _ => h b k cs
theorem NWp.mono {c : Code} {Q' : Exit → Act → World → Prop} (h : NWp P c Q a w) (hq : ∀ e a w, Q e a w → Q' e a w) : NWp P c Q' a w :=
  fun b k cs hb => let ⟨e, a', w', q, r⟩ := h b k cs hb; ⟨e, a', w', hq _ _ _ q, r⟩
/-- One stretch behind another. -/
theorem NWp.seq {x y : Code} (h : NWp P x (Exit.then (NWp P y Q) Q) a w) : NWp P (Code.seq x y) Q a w := by
  intro b k cs hb
  obtain ⟨e, a1, w1, hq, harr⟩ := h b (.code y :: k) cs hb
  have pass : e ≠ .normal → Q e a1 w1 → ∃ e a' w', Q e a' w' ∧ Arrives P (lone (b.at a (.code (.seq x y) :: k)) cs w) b k cs e a' w' := fun hn hq =>
    ⟨e, a1, w1, hq, .of_steps (.one step_seq) (.pass (x := .code y) (by cases e <;> first | rfl | exact absurd rfl hn) (fun _ _ => .inl (by simpa using hn)) harr)⟩
  cases e with
  | normal =>
    obtain ⟨e2, a2, w2, hq2, harr2⟩ := hq b k cs hb
    exact ⟨e2, a2, w2, hq2, .of_steps (.head step_seq harr) harr2⟩
  | exit id => exact pass (by simp) hq
  | goto l => exact pass (by simp) hq
  | ret => exact pass (by simp) hq
  | panic ch => exact pass (by simp) hq
  | outgrown => exact pass (by simp) hq
theorem NWp.cond {c : Operand} {x y : Code} {t : Bool} (hc : a.eval c = .bool t) (h : NWp P (if t then x else y) Q a w) : NWp P (Code.cond c x y) Q a w :=
  fun b k cs hb => let ⟨e, a', w', q, r⟩ := h b k cs hb; ⟨e, a', w', q, .of_steps (.one (step_cond hc)) r⟩
theorem NWp.block {id : Nat} {c : Code} (h : NWp P c (Exit.inBlock id Q) a w) : NWp P (Code.block id c) Q a w := by
  intro b k cs hb
  obtain ⟨e, a1, w1, hq, harr⟩ := h b (.inBlock id :: k) cs hb
  cases e with
  | normal => exact ⟨.normal, a1, w1, hq, Steps.head step_block (Steps.trans harr (.one step_inBlock))⟩
  | exit j =>
    by_cases hid : j = id
    · subst hid
      simp only [Exit.inBlock, if_true] at hq
      exact ⟨.normal, a1, w1, hq, Steps.head step_block (harr k (by simp [exitTo]))⟩
    · simp only [Exit.inBlock, hid, if_false] at hq
      refine ⟨.exit j, a1, w1, hq, fun k' hk => Steps.head step_block (harr k' ?_)⟩
      have hne : (id == j) = false := by simpa using fun e => hid e.symm
      simp [exitTo, hne, hk]
  | goto l => exact ⟨_, a1, w1, hq, fun k' hk => Steps.head step_block (harr k' (by simp [gotoIn, hk]))⟩
  | ret => exact ⟨_, a1, w1, hq, .of_steps (.one step_block) harr⟩
  | panic ch => exact ⟨_, a1, w1, hq, .of_steps (.one step_block) harr⟩
  | outgrown => exact ⟨_, a1, w1, hq, .of_steps (b := b) (k := k) (cs := cs) (e := .outgrown) (.one step_block) harr⟩
/-- Rounds whose measure falls. -/
theorem NWp.loop {c : Code} (I : Act → World → Prop) (m : Act → World → Nat) (h0 : I a w) (round : ∀ a w, I a w → NWp P c (Exit.then (fun a' w' => I a' w' ∧ m a' w' < m a w) Q) a w) : NWp P (Code.loop c) Q a w := by
  intro b k cs hb
  have key : ∀ n a w, m a w ≤ n → I a w → ∃ e a' w', Q e a' w' ∧ Arrives P (lone (b.at a (.code c :: .inLoop c :: k)) cs w) b k cs e a' w' := by
    intro n
    induction n with
    | zero =>
      intro a w hn hI
      obtain ⟨e, a1, w1, hq, harr⟩ := round a w hI b (.inLoop c :: k) cs hb
      cases e with
      | normal => have h1 := hq.2; omega
      | _ => exact ⟨_, a1, w1, hq, .pass (x := .inLoop c) rfl (fun _ _ => .inl (by simp)) harr⟩
    | succ n ih =>
      intro a w hn hI
      obtain ⟨e, a1, w1, hq, harr⟩ := round a w hI b (.inLoop c :: k) cs hb
      cases e with
      | normal =>
        obtain ⟨hI1, hlt⟩ := hq
        obtain ⟨e2, a2, w2, hq2, harr2⟩ := ih a1 w1 (by omega) hI1
        exact ⟨e2, a2, w2, hq2, .of_steps (Steps.trans harr (.one step_inLoop)) harr2⟩
      | _ => exact ⟨_, a1, w1, hq, .pass (x := .inLoop c) rfl (fun _ _ => .inl (by simp)) harr⟩
  obtain ⟨e, a', w', hq, harr⟩ := key _ a w (Nat.le_refl _) h0
  exact ⟨e, a', w', hq, .of_steps (.one step_loop) harr⟩
/-- A function's body. -/
theorem calls_of_nwp {f : FuncId} {fn : Func} {c : Code} {args : Array Value} {R : Ending → World → Prop} (hf : P.funcs[f]? = some fn) (hb : fn.body = some c)
    (h : NWp P c (bodyPost P fn R) { tmps := args ++ Array.replicate (fn.ntmps - args.size) undef, defers := [] } w) : Calls P f args w R := by
  intro cs
  have henter : Frame.enter P f args .normal = ({ (default : Frame) with fn := f, kind := .normal } : Frame).at { tmps := args ++ Array.replicate (fn.ntmps - args.size) undef, defers := [] } [.code c] := by
    simp [Frame.enter, Frame.at, hf, hb]
  obtain ⟨e, a', w', hq, harr⟩ := h { (default : Frame) with fn := f, kind := .normal } [] cs (by simp)
  rw [← henter] at harr
  cases e with
  | normal => obtain ⟨hd, v, hr, hR⟩ := hq; exact ⟨.returned v, w', _, hR, Steps.trans harr (.one step_end), rfl, rfl, hd, rfl, fn, hf, hr⟩
  | ret => obtain ⟨hd, v, hr, hR⟩ := hq; obtain ⟨todo, hs⟩ := harr; exact ⟨.returned v, w', _, hR, hs, rfl, rfl, hd, rfl, fn, hf, hr⟩
  | panic chain => obtain ⟨hd, hR⟩ := hq; obtain ⟨todo, hs⟩ := harr; exact ⟨.panicked chain, w', _, hR, hs, rfl, rfl, hd, fn, hf⟩
  | exit id => exact hq.elim
  | goto l => exact hq.elim
  | outgrown => exact ⟨.outgrown, w', { (default : Frame) with fn := f, kind := .normal }, hq, harr.resolve_left (by simp), rfl, trivial⟩

/-- Operations that each leave a value, one behind the other. -/
def PureTo (P : Program) (ops : Array Oper) : List Nat → Act → World → Act → World → Prop
  | [], a, w, a', w' => a = a' ∧ w = w'
  | i :: rest, a, w, a', w' => ∃ o v w1, ops[i]? = some o ∧ Region.wanted o (yielded ops a.tmps) = true ∧ (execOp a.eval o).run P w = .ok (.value v) w1 ∧ PureTo P ops rest (a.put o.dst v) w1 a' w'
theorem pure_steps {ops : Array Oper} {b : Frame} {k : List Item} {cs : List Frame} {l2 : List Nat} : ∀ (l : List Nat) (a : Act) (w : World) (a' : Act) (w' : World), PureTo P ops l a w a' w' →
    Steps P (lone (b.at a (.inRegion ops (l ++ l2) :: k)) cs w) (lone (b.at a' (.inRegion ops l2 :: k)) cs w')
  | [], a, w, a', w', ⟨e1, e2⟩ => by subst e1 e2; exact Steps.refl _ _
  | i :: rest, a, w, a', w', ⟨o, v, w1, ho, hw, hr, hp⟩ => by
    refine Steps.head ?_ (pure_steps rest _ _ _ _ hp)
    have hg := stepG_op (P := P) (b := b) (k := k) (cs := cs) (w := w) (rest := rest ++ l2) ho hw
    have hf := Frame.finish_at b a ops i (rest ++ l2) k v
    rw [ho] at hf
    refine step_lone_go ?_
    rw [List.cons_append, hg]
    simp only [Option.bind_some] at hf
    rw [← hf]
    simp [stepG.apply, hr]
/-- One step of the machine of one at operation o: it leaves v, in world w'. -/
def CommStep (P : Program) (o : Oper) (a : Act) (w : World) (v : Value) (w' : World) : Prop :=
  ∀ (ops : Array Oper) (i : Nat) (rest : List Nat) (b : Frame) (k : List Item) (cs : List Frame), ops[i]? = some o → b.kind ≠ .early → Region.wanted o (yielded ops a.tmps) = true →
    step P (lone (b.at a (.inRegion ops (i :: rest) :: k)) cs w) = .next (lone ((b.at a (.inRegion ops (i :: rest) :: k)).finish v) cs w')
/-- A region whose last operation is a select. -/
theorem nwp_select {id : Nat} {ops : Array Oper} (j : Nat) {o : Oper} {a1 : Act} {w1 w2 : World} {v : Value} (hj : ops.size = j + 1) (hp : PureTo P ops (List.range j) a w a1 w1) (ho : ops[j]? = some o) (hw : Region.wanted o (yielded ops a1.tmps) = true)
    (hc : CommStep P o a1 w1 v w2) (h : Q .normal (a1.put o.dst v) w2) : NWp P (.region id ops false) Q a w := by
  intro b k cs hb
  refine ⟨.normal, _, w2, h, Steps.head step_region ?_⟩
  rw [hj, List.range_succ]
  refine Steps.trans (pure_steps _ _ _ _ _ hp) (Steps.head (hc ops j [] b k cs ho hb hw) ?_)
  rw [Frame.finish_at, ho]
  exact .one step_region_end
/-- A region that begins with a select: what follows it goes by the usual walk. -/
theorem nwp_select0 {id : Nat} {o : Oper} {post : List Oper} {w2 : World} {v : Value} (hw : Region.wanted o (yielded (o :: post).toArray a.tmps) = true) (hc : CommStep P o a w v w2)
    (h : wpList P (o :: post).toArray Q post (a.put o.dst v) w2) : NWp P (.region id (o :: post).toArray false) Q a w := by
  intro b k cs hb
  have e := wpOps_eq_wpList (P := P) (Q := Q) (ops := (o :: post).toArray) post 1 (fun j => by rw [Nat.add_comm]; simp)
  rw [← e] at h
  obtain ⟨x, a', w', hq, harr⟩ := wp_ops _ _ _ h b k cs
  refine ⟨x, a', w', hq, .of_steps (Steps.head step_region ?_) harr⟩
  have hr : List.range (o :: post).toArray.size = 0 :: List.range' 1 post.length := by
    rw [List.range_eq_range', List.size_toArray, List.length_cons, List.range'_succ]
  rw [hr]
  have hs := hc (o :: post).toArray 0 (List.range' 1 post.length) b k cs rfl hb hw
  rw [Frame.finish_at] at hs
  exact .one hs
end

section
variable {P : Program} {o : Oper} {a : Act} {w : World} {c cap s r : Nat} {buf : Array Value} {closed tm : Bool} {v z : Value}
/-- A send with room. -/
theorem comm_send (hr : (execOp a.eval o).run P w = .ok (.comm #[scase c v z] false .select) w) (hc : w.heap[c]? = some (.chan cap buf false s r tm)) (hroom : buf.size < cap) :
    CommStep P o a w (.tuple #[goInt 0, .bool false]) (w.setChan c cap (buf.push v) false (s + 1) r tm) := fun ops i rest b k cs ho hb hw => by
  have h := step_lone_sel_send_room (k := 0) (stepG_comm (rest := rest) (k := k) (cs := cs) ho hw hb hr) rfl (fun m c' hm hc' => by
    rcases m with _ | m
    · exact absurd rfl hm
    · simp at hc') hc hroom
  have e : commResult #[scase c v z] .select ((0 : Nat) : Int) undef false = .tuple #[goInt 0, .bool false] := by simp [commResult, scase, List.zipIdx_cons]
  rw [e] at h
  exact h
/-- A send without room: the default. -/
theorem comm_full (hr : (execOp a.eval o).run P w = .ok (.comm #[scase c v z] false .select) w) (hc : w.heap[c]? = some (.chan cap buf false s r tm)) (hfull : cap ≤ buf.size) :
    CommStep P o a w (.tuple #[goInt (-1), .bool false]) w := fun ops i rest b k cs ho hb hw => by
  have h := step_lone_sel_default (stepG_comm (rest := rest) (k := k) (cs := cs) ho hw hb hr) (fun cc hcc => by
    simp only [List.mem_toArray, List.mem_singleton] at hcc
    subst hcc
    exact noWay_send hc hfull)
  have e : commResult #[scase c v z] .select (-1) undef false = .tuple #[goInt (-1), .bool false] := by simp [commResult, scase, List.zipIdx_cons]
  rw [e] at h
  exact h
/-- A receive of what is there. -/
theorem comm_recv (hr : (execOp a.eval o).run P w = .ok (.comm #[rcase c z] false .select) w) (hc : w.heap[c]? = some (.chan cap buf closed s r tm)) (hsome : 0 < buf.size) :
    CommStep P o a w (.tuple #[goInt 0, .bool true, buf.getD 0 undef]) (w.setChan c cap (buf.extract 1 buf.size) closed s (r + 1) tm) := fun ops i rest b k cs ho hb hw => by
  have h := step_lone_sel_recv_buf (k := 0) (stepG_comm (rest := rest) (k := k) (cs := cs) ho hw hb hr) rfl (fun m c' hm hc' => by
    rcases m with _ | m
    · exact absurd rfl hm
    · simp at hc') hc hsome
  have e : commResult #[rcase c z] .select ((0 : Nat) : Int) (buf.getD 0 undef) true = .tuple #[goInt 0, .bool true, buf.getD 0 undef] := by simp [commResult, rcase, List.zipIdx_cons]
  rw [e] at h
  exact h
/-- Nothing to receive: the default. -/
theorem comm_none (hr : (execOp a.eval o).run P w = .ok (.comm #[rcase c z] false .select) w) (hc : w.heap[c]? = some (.chan cap #[] false s r tm)) :
    CommStep P o a w (.tuple #[goInt (-1), .bool false, z]) w := fun ops i rest b k cs ho hb hw => by
  have h := step_lone_sel_default (stepG_comm (rest := rest) (k := k) (cs := cs) ho hw hb hr) (fun cc hcc => by
    simp only [List.mem_toArray, List.mem_singleton] at hcc
    subst hcc
    exact noWay_recv hc)
  have e : commResult #[rcase c z] .select (-1) undef false = .tuple #[goInt (-1), .bool false, z] := by simp [commResult, rcase, List.zipIdx_cons]
  rw [e] at h
  exact h
end

end Go.Proofs.Ytemcijfakimkkaa
