
/- What a round of a range over a function turns: one variable's block, and blocks from N on that hold cells. No conditions. -/
import Derived.Test.YtialepcdbpofkaaGreatRngW
import Derived.Lib.AppendStr
import Derived.OwnWalkIn
namespace Go.Proofs.YtialepcdbpofkaaGreat
open Go.RowKit

/-- From W to W' nothing has turned below N but block B, and nothing that holds no cells. -/
structure Turn (N B : Nat) (W W' : World) : Prop where
  bel : Below B W W'
  low : ∀ k : Nat, k < N → k ≠ B → W'.heap[k]? = W.heap[k]?
  oth : ∀ (k : Nat) (o : Obj), W.heap[k]? = some o → o.isCells = false → W'.heap[k]? = some o
theorem Turn.refl (N B : Nat) (W : World) : Turn N B W W := ⟨Below.refl _ _, fun _ _ _ => rfl, fun _ _ h _ => h⟩
theorem Turn.trans {N B : Nat} {X Y Z : World} (h : Turn N B X Y) (k : Turn N B Y Z) : Turn N B X Z :=
  ⟨h.bel.trans k.bel, fun i h1 h2 => (k.low i h1 h2).trans (h.low i h1 h2), fun i o h1 h2 => k.oth i o (h.oth i o h1 h2) h2⟩
theorem Turn.below {N B : Nat} {W W' : World} (hN : N ≤ W.heap.size) (hB : B < N) (h : Below W.heap.size W W') : Turn N B W W' :=
  ⟨h.mono (by omega), fun k hk _ => h.block k (by omega), fun k o hk _ => (h.block k (lt_of_block hk)).trans hk⟩
theorem Turn.alloc {N B : Nat} {W : World} (hN : N ≤ W.heap.size) (hB : B < N) (o : Obj) : Turn N B W (W.alloc o) := .below hN hB ((Below.refl _ _).alloc (Nat.le_refl _) _)
theorem Turn.grown {N B : Nat} {W W' : World} {row : Option Nat} (hN : N ≤ W.heap.size) (hB : B < N) (hg : W.grownBy W' row) (hr : ∀ j, row = some j → N ≤ j ∧ ∃ cs t f, W.heap[j]? = some (.cells cs t f)) : Turn N B W W' :=
  ⟨(Below.refl _ _).grown hg (by omega) fun k e => by have := (hr k e).1; omega, fun k hk _ => hg.block k (by omega) fun e => by have := (hr k e.symm).1; omega,
    fun k o hk ho => (hg.block k (lt_of_block hk) fun e => by
      obtain ⟨_, cs, t, f, hc⟩ := hr k e.symm
      rw [hk] at hc; cases hc; cases ho).trans hk⟩
theorem Turn.set {N B : Nat} (W : World) (o : Nat) (v : Value) : Turn N B W (W.setCell ⟨B, o, none⟩ v) :=
  ⟨(Below.refl B W).setCell (p := ⟨B, o, none⟩) (Nat.le_refl B) v, fun _ _ hk => Below.heap_setCell _ _ _ _ hk, fun k ob hk ho => (KeepsOthers.setCell W _ _).same k ob hk ho⟩
theorem Turn.drew (N B : Nat) (W : World) : Turn N B W W.drew := ⟨(Below.refl _ _).drew, fun _ _ _ => rfl, fun _ _ h _ => h⟩
theorem own_row_cells {W : World} {N e size n : Nat} {v : Value} {xs : List Value} (h : W.ownsRow N e size v n xs) : ∀ j, v.ownBlock = some j → N ≤ j ∧ ∃ cs t f, W.heap[j]? = some (.cells cs t f) := fun j hj => by
  rcases h.2 with ⟨rfl, _⟩ | ⟨g, cap, cur, rfl, h1, h2, _⟩
  · cases hj
  · obtain rfl : g = j := by simpa [Value.ownBlock] using hj
    exact ⟨h1, _, _, _, h2⟩
theorem Turn.keeps {N B : Nat} {W W' : World} (h : Turn N B W W') : KeepsFrom N W W' := ⟨h.bel.size, fun k o _ hk ho => h.oth k o hk ho⟩
/-- A row that stands from N on abides by what turns below N, or holds no cells. -/
theorem own_turn {W W' : World} {N e size n : Nat} {v : Value} {xs : List Value} (h : W.ownsRow N e size v n xs) (hb : ∀ j, N ≤ j → (∃ cs t f, W.heap[j]? = some (.cells cs t f)) → W'.heap[j]? = W.heap[j]?) : W'.ownsRow N e size v n xs :=
  own_keptE h fun g hg => by
    obtain ⟨h1, h2⟩ := own_row_cells h g hg
    exact hb g h1 h2
/-- A row's first k elements, of one cell each. -/
theorem own_head {w : World} {N n e k c : Nat} {A : Option Addr} {xs : List Value} (h : w.ownsRow N e 1 (.slice A n c) n xs) (hk : k ≤ n) : w.ownsRow N e 1 (.slice A k c) k (xs.take k) := by
  have hl := h.1
  refine ⟨by rw [List.length_take]; omega, ?_⟩
  rcases h.2 with ⟨hv, h0⟩ | ⟨g, cap, cur, hv, h1, h2, h3, h4, h5, h6⟩
  · obtain rfl : k = 0 := by omega
    cases hv
    exact .inl ⟨rfl, rfl⟩
  · cases hv
    refine .inr ⟨g, c, cur, rfl, h1, h2, by omega, h4, h5, ?_⟩
    rw [← h6, List.take_take]
    congr 1
    omega

theorem wpListIn_append_own_string {F : Fence} {n : Nat} {P : Program} (w : World) {ops : Array Oper} {rest : List Oper} {o : Oper} {a : Act} {Q : Exit → Act → World → Prop} (hgd : o.guard = none) (sl x : Operand) (t u : TypeId)
    (ho : o.op = .call { callee := .builtin .append, args := #[sl, x], argTypes := #[t, u] })
    (base : Nat) (e : TypeId) (i : TypeInfo) (ht : P.underlying t = some (.slice e)) (hu : P.underlying u = some .string) (hi : P.info? e = some i) (hz : i.zero = some (.int .u8 0))
    (hsize : i.size = 1) (hby : i.bytes = 1)
    (v : Value) (m : Nat) (xs : List Value) (hs : a.eval sl = v) (hown : w.ownsRow base e 1 v m xs) (s : ByteArray) (hx : a.eval x = .string s)
    (h63 : m + s.size ≤ maxLen) (hbytes : m + s.size ≤ 140737488355328) (hbase : base ≤ w.heap.size)
    (hK : ∀ v' w', w'.ownsRow base e 1 v' (m + s.size) (xs ++ Lib.strCells s) → w.grownBy w' v.ownBlock → wpListIn F n P ops Q rest (a.put o.dst v') w') : wpListIn F n P ops Q (o :: rest) a w := by
  refine wpListIn_plain hgd fun K hK' => ?_
  obtain ⟨v', w', hr, h2, h3, _⟩ := Lib.run_append_own_string (P := P) w base t u o.type e i ht hu hi hz hsize hby v m xs hown s h63 hbytes hbase
  unfold Oper.wpIn
  refine ⟨?_, ?_⟩
  · simp [Oper.about, ho, resolve, Target.leads, Sem.run_pure]
  · rw [Oper.semAt_plain F _ _ (by rw [ho]; intro c hc'; cases hc')]
    simp [execOp, ho, resolve, invoke, builtin, hs, hx, hr, Result.andThen]
    exact hK' _ _ (hK v' w' h2 h3)
end Go.Proofs.YtialepcdbpofkaaGreat
