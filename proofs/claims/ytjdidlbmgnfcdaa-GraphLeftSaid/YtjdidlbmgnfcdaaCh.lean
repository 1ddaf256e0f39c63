/- Sends and receives that never wait, inside the walk of one goroutine: a law for a region that communicates, over any program. -/
import Derived.WalkKit
import Derived.Conc.LoneCalls
namespace Go.Proofs.Ytjdidlbmgnfcdaa
open Go.Conc

/-- What is left of a region leads to Q: said of the machine's own steps. -/
def RegTo (P : Program) (ops : Array Oper) (Q : Exit → Act → World → Prop) (l : List Nat) (a : Act) (w : World) : Prop :=
  ∀ (b : Frame) (k : List Item) (cs : List Frame), ∃ e a' w', Q e a' w' ∧ Arrives P (lone (b.at a (.inRegion ops l :: k)) cs w) b k cs e a' w'

section
variable {P : Program} {ops : Array Oper} {Q : Exit → Act → World → Prop} {a : Act} {w w₁ : World} {i : Nat} {rest : List Nat} {o : Oper}
theorem RegTo.of_ops {l : List Nat} (h : wpOps P ops Q l a w) : RegTo P ops Q l a w := wp_ops l a w h
theorem RegTo.done (h : Q .normal a w) : RegTo P ops Q [] a w := wp_ops [] a w h
theorem RegTo.region {id : Nat} (h : RegTo P ops Q (List.range ops.size) a w) : (Code.region id ops false).wp P Q a w :=
  fun b k cs => let ⟨e, a', w', q, r⟩ := h b k cs; ⟨e, a', w', q, .of_steps (.one step_region) r⟩
theorem RegTo.region_draw {id : Nat} (h : ∀ t, RegTo P ops Q (Region.schedule (P.follows .mixedOrders) ops t) a { w with drawn := w.drawn + 1 }) : (Code.region id ops true).wp P Q a w :=
  fun b k cs => let ⟨e, a', w', q, r⟩ := h _ b k cs; ⟨e, a', w', q, .of_steps (.one step_region_draw) r⟩

/-- An operation that yields a value. -/
theorem RegTo.value {v : Value} (ho : ops[i]? = some o) (hw : Region.wanted o (yielded ops a.tmps) = true)
    (hr : (execOp a.eval o).run P w = .ok (.value v) w₁) (h : RegTo P ops Q rest (a.put o.dst v) w₁) : RegTo P ops Q (i :: rest) a w := by
  intro b k cs
  obtain ⟨e, a', w', hq, harr⟩ := h b k cs
  refine ⟨e, a', w', hq, .of_steps (.one (step_lone_go ?_)) harr⟩
  have hfin : (b.at a (.inRegion ops (i :: rest) :: k)).finish v = b.at (a.put o.dst v) (.inRegion ops rest :: k) := by rw [Frame.finish_at, ho]; rfl
  rw [stepG_op ho hw, ← hfin]
  simp [stepG.apply, hr]

/-- A move. -/
theorem RegTo.move {x : Operand} (ho : ops[i]? = some o) (hop : o.op = .move x) (hg : o.guard = none) (h : RegTo P ops Q rest (a.put o.dst (a.eval x)) w) : RegTo P ops Q (i :: rest) a w :=
  RegTo.value ho (by simp [Region.wanted, hg]) (by simp [execOp, hop]) h

theorem comm_of {cases : Array CommCase} {blocking : Bool} {shape : CommShape} (ho : ops[i]? = some o) (hw : Region.wanted o (yielded ops a.tmps) = true)
    (hr : (execOp a.eval o).run P w = .ok (.comm cases blocking shape) w₁) (b : Frame) (k : List Item) (cs : List Frame) :
    ∃ es, stepG P true (G (b.at a (.inRegion ops (i :: rest) :: k)) cs) w = .comm (G (b.at a (.inRegion ops (i :: rest) :: k)) cs) cases blocking shape w₁ es := by
  rw [stepG_oper ho hw]
  simp [stepG.apply, hr, G, Frame.at, GStep.after]

/-- A send into a buffer with room. -/
theorem RegTo.send {c cap s r : Nat} {buf : Array Value} {v z : Value} {tm : Bool} (ho : ops[i]? = some o) (hw : Region.wanted o (yielded ops a.tmps) = true)
    (hr : (execOp a.eval o).run P w = .ok (.comm #[scase c v z] true .send) w₁) (hc : w₁.heap[c]? = some (.chan cap buf false s r tm)) (hroom : buf.size < cap)
    (h : RegTo P ops Q rest (a.put o.dst undef) (w₁.setChan c cap (buf.push v) false (s + 1) r tm)) : RegTo P ops Q (i :: rest) a w := by
  intro b k cs
  obtain ⟨e, a', w', hq, harr⟩ := h b k cs
  obtain ⟨es, hs⟩ := comm_of (rest := rest) ho hw hr b k cs
  have h2 := step_lone_send_room hs hc hroom
  rw [Frame.finish_at, ho] at h2
  exact ⟨e, a', w', hq, .of_steps (.one h2) harr⟩

/-- A receive from a buffer that holds something. -/
theorem RegTo.recv {c cap s r : Nat} {buf : Array Value} {z : Value} {tm closed ok : Bool} (ho : ops[i]? = some o) (hw : Region.wanted o (yielded ops a.tmps) = true)
    (hr : (execOp a.eval o).run P w = .ok (.comm #[rcase c z] true (.recv ok)) w₁) (hc : w₁.heap[c]? = some (.chan cap buf closed s r tm)) (hsome : 0 < buf.size)
    (h : RegTo P ops Q rest (a.put o.dst (got ok (buf.getD 0 undef) true)) (w₁.setChan c cap (buf.extract 1 buf.size) closed s (r + 1) tm)) : RegTo P ops Q (i :: rest) a w := by
  intro b k cs
  obtain ⟨e, a', w', hq, harr⟩ := h b k cs
  obtain ⟨es, hs⟩ := comm_of (rest := rest) ho hw hr b k cs
  have h2 := step_lone_recv_buf ok hs hc hsome
  rw [Frame.finish_at, ho] at h2
  exact ⟨e, a', w', hq, .of_steps (.one h2) harr⟩

/-- A receive from a closed channel whose buffer is empty. -/
theorem RegTo.shut {c cap s r : Nat} {z : Value} {tm ok : Bool} (ho : ops[i]? = some o) (hw : Region.wanted o (yielded ops a.tmps) = true)
    (hr : (execOp a.eval o).run P w = .ok (.comm #[rcase c z] true (.recv ok)) w₁) (hc : w₁.heap[c]? = some (.chan cap #[] true s r tm))
    (h : RegTo P ops Q rest (a.put o.dst (got ok z false)) w₁) : RegTo P ops Q (i :: rest) a w := by
  intro b k cs
  obtain ⟨e, a', w', hq, harr⟩ := h b k cs
  obtain ⟨es, hs⟩ := comm_of (rest := rest) ho hw hr b k cs
  have h2 := step_lone_recv_shut ok hs hc
  rw [Frame.finish_at, ho] at h2
  exact ⟨e, a', w', hq, .of_steps (.one h2) harr⟩
end
end Go.Proofs.Ytjdidlbmgnfcdaa
