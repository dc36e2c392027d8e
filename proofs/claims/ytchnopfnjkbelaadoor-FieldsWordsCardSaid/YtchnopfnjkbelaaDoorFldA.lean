/- The reference's in; what stands in memory while pieces are cut. Conditions: sizes. -/
import Derived.Test.YtchnopfnjkbelaaDoorFldM
namespace Go.Proofs.YtchnopfnjkbelaaDoor
open Go.RowKit
open Go.Lib (hid)

set_option maxHeartbeats 1000000 in
theorem rIn_any (s : List UInt8) (c : UInt8) (w : World) (hs : s.length ≤ 140737488355328) : Calls Tryd.prog 22 #[.string ⟨s.toArray⟩, .int .u8 c.toNat] w fun e w' => e = .returned (.bool (decide (c ∈ s))) ∧ w = w' := by
  have hz : (⟨s.toArray⟩ : ByteArray).size = s.length := by simp [ByteArray.size]
  go_enter Tryd.func22, Tryd.ntmps22
  go_wp2
  go_loopw [5] (fun i wr => ∃ k : Nat, k ≤ s.length ∧ i = .int .i64 k ∧ Hid (c ∉ s.take k) ∧ w = wr) (fun i _ => s.length - (intOf i).toNat)
  case atStart => exact ⟨0, Nat.zero_le _, rfl, hid (by simp), rfl⟩
  case round =>
    obtain ⟨k, hk, rfl, HN, rfl⟩ := hrel
    by_cases hlt : k < s.length
    · have hg : (⟨s.toArray⟩ : ByteArray)[k]'(by rw [hz]; exact hlt) = s[k] := by simp [ByteArray.getElem_eq_getElem_data]
      by_cases hc : s[k] = c
      · have hq : (((⟨s.toArray⟩ : ByteArray)[k]'(by rw [hz]; exact hlt)).toNat : Int) = c.toNat := by rw [hg, hc]
        have HR : Hid (decide (c ∈ s) = true) := hid (decide_eq_true (by rw [← hc]; exact List.getElem_mem hlt))
        clear hg hc HN
        go_wp2
        go_ret
        exact ⟨by rw [HR.out]; rfl, rfl⟩
      · have hq : ((((⟨s.toArray⟩ : ByteArray)[k]'(by rw [hz]; exact hlt)).toNat : Int) == c.toNat) = false := by
          rw [hg, beq_eq_false_iff_ne]
          exact fun e => hc (UInt8.toNat_inj.1 (by omega))
        have HR : Hid (c ∉ s.take (k + 1)) := hid (by
          rw [List.take_succ_eq_append_getElem hlt, List.mem_append, List.mem_singleton]
          rintro (h | h)
          · exact HN.out h
          · exact hc h.symm)
        clear hg hc HN
        go_wp2
        go_roundw
        case rel => exact ⟨k + 1, by omega, by go_num, HR, trivial⟩
        case measure => simp [intOf]; omega
    · obtain rfl : k = s.length := by omega
      have HR : Hid (decide (c ∈ s) = false) := hid (decide_eq_false (by have := HN.out; rwa [List.take_length] at this))
      clear HN
      go_wp2
      go_ret
      exact ⟨by rw [HR.out]; rfl, rfl⟩

/-- What stands in memory while pieces are cut. -/
def StF (N : Nat) (w0 wr : World) (s : Fs) (vo vn : Value) : Prop :=
  ∃ (M : Nat) (a : Option Addr) (c : Nat) (a2 : Option Addr) (c2 : Nat), vo = .slice a s.out.length c ∧ vn = .slice a2 s.now.length c2 ∧ OwnF wr N M a c s.out ∧ OwnO wr M a2 c2 s.now ∧ N ≤ M ∧ M ≤ wr.heap.size ∧ Below N w0 wr
theorem StF.below {N : Nat} {w0 wr w' : World} {s : Fs} {vo vn : Value} (h : StF N w0 wr s vo vn) (hb : Below wr.heap.size wr w') : StF N w0 w' s vo vn := by
  obtain ⟨M, a, c, a2, c2, h1, h2, h3, h4, h5, h6, h7⟩ := h
  exact ⟨M, a, c, a2, c2, h1, h2, h3.below hb, own_below h4 hb, h5, Nat.le_trans h6 hb.size, h7.trans (hb.mono (Nat.le_trans h5 h6))⟩
theorem StF.flags {N : Nat} {w0 wr : World} {s s' : Fs} {vo vn : Value} (h : StF N w0 wr s vo vn) (h1 : s'.out = s.out) (h2 : s'.now = s.now) : StF N w0 wr s' vo vn := by
  unfold StF at h ⊢
  rw [h1, h2]
  exact h
theorem stF_start (w : World) (s : Fs) (h1 : s.out = []) (h2 : s.now = []) : StF w.heap.size w w s (.slice none 0 0) (.slice none 0 0) := by
  unfold StF
  rw [h1, h2]
  exact ⟨w.heap.size, none, 0, none, 0, rfl, rfl, ownF_nil _ _ _, ownO_nil _ _, Nat.le_refl _, Nat.le_refl _, Below.refl _ _⟩
/-- An octet more. -/
theorem StF.put {N M : Nat} {w0 wr w1 w' : World} {s s' : Fs} {a a2 : Option Addr} {c c2 g cap : Nat} {o : Oc} (h3 : OwnF wr N M a c s.out) (h4 : OwnO wr M a2 c2 s.now) (h5 : N ≤ M) (h6 : M ≤ wr.heap.size) (h7 : Below N w0 wr)
    (hb : Below wr.heap.size wr w1) (hg : w1.grownBy w' (Value.slice a2 s.now.length c2).ownBlock)
    (hown : w'.ownsRow M 50 2 (.slice (some ⟨g, 0, none⟩) (s.now.length + 1) cap) (s.now.length + 1) (s.now.flatMap cellsO ++ cellsO o)) (e1 : s'.out = s.out) (e2 : s'.now = s.now ++ [o]) :
    StF N w0 w' s' (.slice a s.out.length c) (.slice (some ⟨g, 0, none⟩) (s.now.length + 1) cap) := by
  have h4' := own_below h4 hb
  have hrow := own_tag h4'
  have hs := hb.size
  refine ⟨M, a, c, some ⟨g, 0, none⟩, cap, by rw [e1], by rw [e2]; simp, ?_, by rw [e2]; exact OwnO.next hown, h5, by have := hg.size; omega, ?_⟩
  · rw [e1]
    refine (h3.below hb).kept (Nat.le_refl _) (fun j _ ⟨cs, hc⟩ => hg.block j (lt_of_block hc) fun e => ?_) (fun j ⟨_, hj, cs, hc⟩ => hg.block j (lt_of_block hc) fun e => ?_)
    · obtain ⟨-, cs', hc'⟩ := hrow j e.symm
      rw [hc] at hc'; simp at hc'
    · have := (hrow j e.symm).1; omega
  · exact (h7.trans (hb.mono (by omega))).grown hg (by omega) fun k e => by have := (hrow k e).1; omega
/-- A field ends: fin (what is under way), or none (an empty one). -/
theorem StF.fin {N M : Nat} {w0 wr w1 w' : World} {s : Fs} {a a2 : Option Addr} {c c2 g cap : Nat} {vs : List Value} (hv1 : vs.length = s.out.length) (hv2 : wr.ownsRow N 40 1 (.slice a s.out.length c) s.out.length vs) (hv3 : ∀ k (h : k < s.out.length), ∃ B cap, vs[k]? = some (.slice B s.out[k].length cap) ∧ s.out[k].length ≤ cap ∧ OcsP wr (PF wr N M) B s.out[k])
    (h4 : OwnO wr M a2 c2 s.now) (h5 : N ≤ M) (h6 : M ≤ wr.heap.size) (h7 : Below N w0 wr) (hb : Below wr.heap.size wr w1) (hg : w1.grownBy w' (Value.slice a s.out.length c).ownBlock)
    (hown : w'.ownsRow N 40 1 (.slice (some ⟨g, 0, none⟩) (s.out.length + 1) cap) (s.out.length + 1) (vs ++ [.slice a2 s.now.length c2])) :
    OwnF w' N w1.heap.size (some ⟨g, 0, none⟩) cap (s.out ++ [s.now]) ∧ w1.heap.size ≤ w'.heap.size ∧ N ≤ w1.heap.size ∧ Below N w0 w' := by
  have h4' := own_below h4 hb
  have hs := hb.size
  have hv2' := own_below hv2 hb
  refine ⟨OwnF.next hv1 hv2' (M := M) (fun k hk => ?_) (by omega) ?_ hg ((OwnO.ocs h4').frame fun j hj ⟨p1, cs, p2⟩ => ⟨⟨by omega, hj, cs, p2⟩, rfl⟩) hown, hg.size, by omega, (h7.trans (hb.mono (by omega))).grown hg (by omega) fun k e => (own_tag hv2' k e).1⟩
  · obtain ⟨B, cap, e, hc, hO⟩ := hv3 k hk
    exact ⟨B, cap, e, hc, hO.frame fun j hj ⟨p1, p2, cs, p3⟩ => ⟨⟨p1, p2, cs, (hb.block j hj).trans p3⟩, hb.block j hj⟩⟩
  · exact own_capO h4
theorem StF.fin_now {N M : Nat} {w0 wr w1 w' : World} {s s' : Fs} {a a2 : Option Addr} {c c2 g cap : Nat} {vs : List Value} (hv1 : vs.length = s.out.length) (hv2 : wr.ownsRow N 40 1 (.slice a s.out.length c) s.out.length vs) (hv3 : ∀ k (h : k < s.out.length), ∃ B cap, vs[k]? = some (.slice B s.out[k].length cap) ∧ s.out[k].length ≤ cap ∧ OcsP wr (PF wr N M) B s.out[k])
    (h4 : OwnO wr M a2 c2 s.now) (h5 : N ≤ M) (h6 : M ≤ wr.heap.size) (h7 : Below N w0 wr) (hb : Below wr.heap.size wr w1) (hg : w1.grownBy w' (Value.slice a s.out.length c).ownBlock)
    (hown : w'.ownsRow N 40 1 (.slice (some ⟨g, 0, none⟩) (s.out.length + 1) cap) (s.out.length + 1) (vs ++ [.slice a2 s.now.length c2])) (e1 : s'.out = s.out ++ [s.now]) (e2 : s'.now = []) :
    StF N w0 w' s' (.slice (some ⟨g, 0, none⟩) (s.out.length + 1) cap) (.slice none 0 0) := by
  obtain ⟨k1, k2, k3, k4⟩ := StF.fin hv1 hv2 hv3 h4 h5 h6 h7 hb hg hown
  exact ⟨w1.heap.size, some ⟨g, 0, none⟩, cap, none, 0, by rw [e1]; simp, by rw [e2]; rfl, by rw [e1]; exact k1, by rw [e2]; exact ownO_nil _ _, k3, k2, k4⟩
/-- An empty field more. -/
theorem StF.fin_nil {N M : Nat} {w0 wr w1 w' : World} {s s' : Fs} {a a2 : Option Addr} {c c2 g cap : Nat} {vs : List Value} (hv1 : vs.length = s.out.length) (hv2 : wr.ownsRow N 40 1 (.slice a s.out.length c) s.out.length vs) (hv3 : ∀ k (h : k < s.out.length), ∃ B cap, vs[k]? = some (.slice B s.out[k].length cap) ∧ s.out[k].length ≤ cap ∧ OcsP wr (PF wr N M) B s.out[k])
    (h4 : OwnO wr M a2 c2 s.now) (h5 : N ≤ M) (h6 : M ≤ wr.heap.size) (h7 : Below N w0 wr) (hb : Below wr.heap.size wr w1) (hg : w1.grownBy w' (Value.slice a s.out.length c).ownBlock)
    (hown : w'.ownsRow N 40 1 (.slice (some ⟨g, 0, none⟩) (s.out.length + 1) cap) (s.out.length + 1) (vs ++ [.slice none 0 0])) (e1 : s'.out = s.out ++ [[]]) (e2 : s'.now = s.now) :
    StF N w0 w' s' (.slice (some ⟨g, 0, none⟩) (s.out.length + 1) cap) (.slice a2 s.now.length c2) := by
  have hs := hb.size
  have hv2' := own_below hv2 hb
  have hrow := own_tag hv2'
  have k1 : OwnF w' N M (some ⟨g, 0, none⟩) cap (s.out ++ [[]]) := OwnF.next hv1 hv2' (M := M) (fun k hk => by
    obtain ⟨B, cap, e, hc, hO⟩ := hv3 k hk
    exact ⟨B, cap, e, hc, hO.frame fun j hj ⟨p1, p2, cs, p3⟩ => ⟨⟨p1, p2, cs, (hb.block j hj).trans p3⟩, hb.block j hj⟩⟩) (Nat.le_refl _) (Nat.le_refl _) hg (ocsP_none _ _ none) hown
  refine ⟨M, some ⟨g, 0, none⟩, cap, a2, c2, by rw [e1]; simp, by rw [e2], by rw [e1]; exact k1, by
    rw [e2]
    refine own_keptE (own_below h4 hb) fun j hj => ?_
    obtain ⟨q1, cs, q2⟩ := own_tag (own_below h4 hb) j hj
    exact hg.block j (lt_of_block q2) fun e => by
      obtain ⟨-, cs', hc'⟩ := hrow j e.symm
      rw [q2] at hc'; simp at hc', h5, by have := hg.size; omega, (h7.trans (hb.mono (by omega))).grown hg (by omega) fun k e => (hrow k e).1⟩
end Go.Proofs.YtchnopfnjkbelaaDoor
