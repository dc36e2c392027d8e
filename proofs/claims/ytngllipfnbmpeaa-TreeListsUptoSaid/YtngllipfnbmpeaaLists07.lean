/- TreeLists: true, in memory of its own. Conditions: sizes. -/
import Derived.Test.YtngllipfnbmpeaaPuts07
import Derived.Test.YtngllipfnbmpeaaPgW
namespace Go.Proofs.Ytngllipfnbmpeaa
open Go.RowKit
open Go.Lib (hid)

theorem names_short {t : List ND} {P x : List UInt8} {b : Nat} (hok : OkT t) (hz : ∀ n ∈ t, n.p.length ≤ b) (h : x ∈ namesIn t P) : x.length ≤ b := by
  obtain ⟨n, hn, rfl⟩ := List.mem_map.1 h
  have hn := (List.mem_filter.1 hn).1
  obtain ⟨-, h1, h2, -, -⟩ := hok.node hn
  rw [← name_last h1 h2, List.length_drop]
  have := hz n hn
  omega
theorem list_short {t : List ND} {s x : List UInt8} {b : Nat} (hz : ∀ n ∈ t, n.p.length ≤ b) (he : (listQ t s).2 = 0) (h : x ∈ (listQ t s).1) : x.length ≤ b := by
  obtain ⟨h0, -, -, e⟩ := listQ_ok he
  rw [e, (sortL_perm _).mem_iff] at h
  exact names_short h0 hz h
theorem list_few {t : List ND} {s : List UInt8} (he : (listQ t s).2 = 0) : (listQ t s).1.length ≤ 256 := by
  obtain ⟨h0, -, -, e⟩ := listQ_ok he
  rw [e, sortL_len]
  have := names_le t (pathL s)
  have := h0.1
  omega
theorem list_len (t : List ND) (s : List UInt8) : (listQ t s).1.length ≤ 256 := by
  by_cases he : (listQ t s).2 = 0
  · exact list_few he
  · rw [listQ_err he]; exact Nat.zero_le _

set_option maxRecDepth 100000 in
set_option maxHeartbeats 16000000 in
theorem lists_walk (A : Option Addr) (c : Nat) (t : List ND) (s : List UInt8) (w : World) (hT : NodesP w (fun _ => True) A t) (hl : t.length ≤ 1048576 ∧ t.length ≤ c) (hz : ∀ n ∈ t, n.p.length ≤ 1048576 ∧ n.x.length ≤ 1048576) (hs : s.length ≤ 1048576) :
    Calls Try.prog 5 #[.slice A t.length c, encS s] w fun e w' => e = .returned (.bool true) ∧ Below w.heap.size w w' := by
  have hzt : SizeT t := fun n hn => by have := hz n hn; omega
  have cA := alive_any w
  have cL := fun W (hb : Below w.heap.size w W) => tList_any A c t s W (hT.below hb) ⟨by omega, hl.2⟩ hzt (by omega)
  by_cases he : (listQ t s).2 = 0
  · obtain ⟨m1, m2, m3⟩ := lists_math he
    obtain ⟨m3a, m3b⟩ := m3 [122, 122, 57] ⟨by decide, by decide, by decide, by decide⟩ (by decide)
    have hshort := fun x h => list_short (x := x) (fun n hn => (hz n hn).1) he h
    have hfew := list_few he
    obtain ⟨SZ, hSZ⟩ : ∃ SZ, s ++ 47 :: [122, 122, 57] = SZ := ⟨_, rfl⟩
    have hSZl : SZ.length ≤ 1048580 := by rw [← hSZ]; simp; omega
    have haddZ : (⟨s.toArray⟩ : ByteArray) ++ ⟨#[47, 122, 122, 57]⟩ = ⟨SZ.toArray⟩ := by rw [← hSZ]; exact bytes_app s [47, 122, 122, 57]
    rw [hSZ] at m3a m3b
    have zX : SizeT (putQ t SZ []).1 := fun n hn => by
      rcases putQ_mem hn with rfl | h
      · have := pathL_len SZ
        constructor
        · show (pathL SZ).length ≤ _; omega
        · show ([] : List UInt8).length ≤ _; simp
      · exact hzt n h
    have lX := putQ_len t SZ []
    have cP := fun W (hb : Below w.heap.size w W) => tPut_any A c t SZ [] W (hT.below hb) ⟨by omega, hl.2⟩ hzt (by omega) (by simp)
    have cK := fun x (hx : x ∈ (listQ t s).1) W (hb : Below w.heap.size w W) => tKind_any A c t (s ++ 47 :: x) W (hT.below hb) ⟨by omega, hl.2⟩ hzt (by have := hshort x hx; simp; omega)
    have lM := list_len (putQ t SZ []).1 s
    generalize listQ t s = q at *
    obtain ⟨L, L2⟩ := q
    simp only at he m1 m2 m3a m3b hshort hfew cK
    subst he
    generalize putQ t SZ [] = X at *
    obtain ⟨X1, X2⟩ := X
    simp only at m3a m3b zX lX lM
    have cM := fun a c' W (h : NodesP W (fun _ => True) a X1) (hc : X1.length ≤ c') => tList_any a c' X1 s W h ⟨by omega, hc⟩ zX (by omega)
    generalize listQ X1 s = M at *
    obtain ⟨M1, M2⟩ := M
    simp only at m3b lM
    have HM := hid (And.intro m1 (And.intro m2 (And.intro hshort (And.intro m3a m3b))))
    clear hT hz hzt m1 m2 m3 m3a m3b hshort zX
    go_enter Try.func5, Try.ntmps5
    go_wp2_with fail
    refine cA.mono ?_
    rintro e w1 ⟨rfl, hb1⟩
    have HB1 := hid hb1
    have cL1 := cL w1 hb1
    clear hb1 cA cL
    go_wp2_with fail
    refine cL1.mono ?_
    rintro e w3 ⟨a, c', rfl, hO, hb3⟩
    have HB3 := hid (HB1.out.trans (hb3.mono HB1.out.size))
    have HX3 := hid ((TextsP.of_own hO).any)
    clear hb3 cL1 hO
    go_wp2_with (go_at_call 9; refine (num_any _ _).mono ?_; rintro e w6 ⟨rfl, rfl⟩)
    go_loopw [7, 8] (fun f i wr => ∃ k : Nat, k ≤ L.length ∧ f = .bool (decide ([122, 122, 57] ∈ L.take k)) ∧ i = .int .i64 k ∧ Below w3.heap.size w3 wr) (fun _ i _ => L.length - (intOf i).toNat)
    case atStart => exact ⟨0, Nat.zero_le _, by simp, rfl, Below.refl _ _⟩
    case round =>
      obtain ⟨k, hk, rfl, rfl, hB⟩ := hrel
      by_cases hlt : k < L.length
      · obtain ⟨g, o, rfl, -, c0⟩ := (HX3.out.below hB) k hlt
        have hprev : ∀ h : 0 < k, wr.cell? ⟨g, o + (k - 1), none⟩ = some (encS L[k - 1]) := fun h => by
          obtain ⟨g', o', e, -, d0⟩ := (HX3.out.below hB) (k - 1) (by omega)
          cases e; exact d0
        have hmem : L[k] ∈ L := List.getElem_mem hlt
        have HB := hid (HB3.out.trans (hB.mono HB3.out.size))
        have q1 := HM.out.1 _ hmem
        have hxl := HM.out.2.2.1 _ hmem
        have hasc : ∀ h : 0 < k, L[k - 1] < L[k] := fun h => List.pairwise_iff_getElem.1 HM.out.2.1 (k - 1) k (by omega) hlt (by omega)
        have HS := hid (show ([122, 122, 57] ∈ L.take (k + 1)) ↔ ([122, 122, 57] ∈ L.take k ∨ L[k] = [122, 122, 57]) by
          rw [List.take_succ_eq_append_getElem hlt, List.mem_append, List.mem_singleton]
          exact or_congr Iff.rfl ⟨Eq.symm, Eq.symm⟩)
        obtain ⟨D, hD⟩ : ∃ D, decide ([122, 122, 57] ∈ L.take k) = D := ⟨_, rfl⟩
        have HS : Hid (decide ([122, 122, 57] ∈ L.take (k + 1)) = (D || decide (L[k] = [122, 122, 57]))) := hid (by rw [← hD, ← Bool.decide_or]; exact decide_eq_decide.2 HS.out)
        rw [hD]
        clear hD
        have cK1 := cK L[k] hmem
        generalize L[k] = x at *
        obtain ⟨S1, hS1⟩ : ∃ S1, s ++ [47] = S1 := ⟨_, rfl⟩
        obtain ⟨SX, hSX⟩ : ∃ SX, s ++ 47 :: x = SX := ⟨_, rfl⟩
        have hS1l : S1.length ≤ 1048577 := by rw [← hS1]; simp; omega
        have hadd1 : (⟨s.toArray⟩ : ByteArray) ++ ⟨#[47]⟩ = ⟨S1.toArray⟩ := by rw [← hS1]; exact bytes_app s [47]
        have hadd2 : (⟨S1.toArray⟩ : ByteArray) ++ ⟨x.toArray⟩ = ⟨SX.toArray⟩ := by rw [← hSX, ← hS1, bytes_app]; simp
        rw [hSX] at cK1 q1
        have b1 : s.length ≤ 9223372036854775806 := by omega
        have b2 : S1.length + x.length ≤ 9223372036854775807 := by omega
        clear hS1 hSX hmem cK cP cM
        have q2 : (kindQ t SX == 0) = false := by simpa using q1
        generalize kindQ t SX = KK at *
        have cK2 := cK1 wr.drew (HB.out.trans ((Below.refl _ _).drew.mono HB.out.size))
        clear cK1 q1 hSZ haddZ
        rcases Nat.eq_zero_or_pos k with rfl | hk0
        · have hS : Cells [(⟨g, o, none⟩, encS x)] wr.drew := fun q hq => by
            rcases List.mem_cons.1 hq with rfl | hq
            · exact c0
            · cases hq
          clear hprev hasc c0
          go_wp2_with fail
          refine wp_region_held_drew (S := Cells [(⟨g, o, none⟩, encS x)]) (by kernel_rfl) hS (fun _ => ?_)
          refine takeH (i := 0) (d := some 33) (v := .slice A t.length c) rfl rfl (by kernel_rfl) (by kernel_rfl) (by kernel_rfl) (fun _ _ _ h => h) (Or.inl ⟨by rfl, fun w' _ => by go_simp⟩) hS ?_
          try simp only [Act.put, List.setIfInBounds_toArray, List.set_cons_zero, List.set_cons_succ]
          refine takeH (i := 1) (d := some 34) (v := encS s) rfl rfl (by kernel_rfl) (by kernel_rfl) (by kernel_rfl) (fun _ _ _ h => h) (Or.inl ⟨by rfl, fun w' _ => by go_simp⟩) hS ?_
          try simp only [Act.put, List.setIfInBounds_toArray, List.set_cons_zero, List.set_cons_succ]
          refine takeH (i := 2) (d := some 35) (v := encS S1) rfl rfl (by kernel_rfl) (by kernel_rfl) (by kernel_rfl) (fun _ _ _ h => h) (Or.inl ⟨by rfl, fun w' _ => by go_simp⟩) hS ?_
          try simp only [Act.put, List.setIfInBounds_toArray, List.set_cons_zero, List.set_cons_succ]
          refine takeH (i := 3) (d := some 36) (v := .slice (some ⟨g, o, none⟩) L.length c') rfl rfl (by kernel_rfl) (by kernel_rfl) (by kernel_rfl) (fun _ _ _ h => h) (Or.inl ⟨by rfl, fun w' _ => by go_simp⟩) hS ?_
          try simp only [Act.put, List.setIfInBounds_toArray, List.set_cons_zero, List.set_cons_succ]
          refine takeH (i := 4) (d := some 37) (v := .int .i64 0) rfl rfl (by kernel_rfl) (by kernel_rfl) (by kernel_rfl) (fun _ _ _ h => h) (Or.inl ⟨by rfl, fun w' _ => by go_simp⟩) hS ?_
          try simp only [Act.put, List.setIfInBounds_toArray, List.set_cons_zero, List.set_cons_succ]
          refine takeH (i := 5) (d := some 38) (v := .pointer (some ⟨g, o, none⟩)) rfl rfl (by kernel_rfl) (by kernel_rfl) (by kernel_rfl) (fun _ _ _ h => h) (Or.inl ⟨by rfl, fun w' _ => by go_simp⟩) hS ?_
          try simp only [Act.put, List.setIfInBounds_toArray, List.set_cons_zero, List.set_cons_succ]
          refine takeH (i := 6) (d := some 39) (v := encS x) rfl rfl (by kernel_rfl) (by kernel_rfl) (by kernel_rfl) (fun _ _ _ h => h) (Or.inl ⟨by rfl, fun w' hS' => by have s0 := hS' _ (.head _); dsimp only at s0; go_simp⟩) hS ?_
          try simp only [Act.put, List.setIfInBounds_toArray, List.set_cons_zero, List.set_cons_succ]
          refine takeH (i := 7) (d := some 40) (v := encS SX) rfl rfl (by kernel_rfl) (by kernel_rfl) (by kernel_rfl) (fun _ _ _ h => h) (Or.inl ⟨by rfl, fun w' _ => by go_simp⟩) hS ?_
          try simp only [Act.put, List.setIfInBounds_toArray, List.set_cons_zero, List.set_cons_succ]
          refine wpAnyH_ready (rs := [8]) (by kernel_rfl) (by simp) (AllReadyH.cons rfl (fun K hK => ?_) AllReadyH.nil)
          go_simp
          go_at_call 14
          refine cK2.mono ?_
          rintro e w9 ⟨rfl, hb9⟩
          have hS9 := hS.below hb9
          go_wp2_with fail
          refine hK.out _ _ hS9 (fun _ => ?_)
          clear hK K
          try simp only [Act.put, List.setIfInBounds_toArray, List.set_cons_zero, List.set_cons_succ]
          refine takeH (i := 9) (d := some 42) (v := .bool false) rfl rfl (by kernel_rfl) (by kernel_rfl) (by kernel_rfl) (fun _ _ _ h => h) (Or.inl ⟨by rfl, fun w' _ => by go_simp⟩) hS9 ?_
          try simp only [Act.put, List.setIfInBounds_toArray, List.set_cons_zero, List.set_cons_succ]
          refine takeH (i := 10) (d := some 43) (v := .bool false) rfl rfl (by kernel_rfl) (by kernel_rfl) (by kernel_rfl) (fun _ _ _ h => h) (Or.inl ⟨by rfl, fun w' _ => by go_simp⟩) hS9 ?_
          try simp only [Act.put, List.setIfInBounds_toArray, List.set_cons_zero, List.set_cons_succ]
          refine takeH (i := 11) (d := some 44) (v := .int .i64 0) rfl rfl (by kernel_rfl) (by kernel_rfl) (by kernel_rfl) (fun _ _ _ h => h) (Or.inl ⟨by rfl, fun w' _ => by go_simp⟩) hS9 ?_
          try simp only [Act.put, List.setIfInBounds_toArray, List.set_cons_zero, List.set_cons_succ]
          refine takeH (i := 12) (d := some 45) (v := .bool false) rfl rfl (by kernel_rfl) (by kernel_rfl) (by kernel_rfl) (fun _ _ _ h => h) (Or.inl ⟨by rfl, fun w' _ => by go_simp⟩) hS9 ?_
          try simp only [Act.put, List.setIfInBounds_toArray, List.set_cons_zero, List.set_cons_succ]
          refine takeH (i := 13) (d := some 46) (v := .bool false) rfl rfl (by kernel_rfl) (by kernel_rfl) (by kernel_rfl) (fun _ _ _ h => h) (Or.inl ⟨by rfl, fun w' _ => by go_simp⟩) hS9 ?_
          try simp only [Act.put, List.setIfInBounds_toArray, List.set_cons_zero, List.set_cons_succ]
          refine takeH (i := 14) (d := some 47) (v := undef) rfl rfl (by kernel_rfl) (by kernel_rfl) (by kernel_rfl) (fun _ _ _ h => h) (Or.inr ⟨by rfl, rfl⟩) hS9 ?_
          try simp only [Act.put, List.setIfInBounds_toArray, List.set_cons_zero, List.set_cons_succ]
          refine takeH (i := 15) (d := some 48) (v := undef) rfl rfl (by kernel_rfl) (by kernel_rfl) (by kernel_rfl) (fun _ _ _ h => h) (Or.inr ⟨by rfl, rfl⟩) hS9 ?_
          try simp only [Act.put, List.setIfInBounds_toArray, List.set_cons_zero, List.set_cons_succ]
          refine takeH (i := 16) (d := some 49) (v := undef) rfl rfl (by kernel_rfl) (by kernel_rfl) (by kernel_rfl) (fun _ _ _ h => h) (Or.inr ⟨by rfl, rfl⟩) hS9 ?_
          try simp only [Act.put, List.setIfInBounds_toArray, List.set_cons_zero, List.set_cons_succ]
          refine takeH (i := 17) (d := some 50) (v := undef) rfl rfl (by kernel_rfl) (by kernel_rfl) (by kernel_rfl) (fun _ _ _ h => h) (Or.inr ⟨by rfl, rfl⟩) hS9 ?_
          try simp only [Act.put, List.setIfInBounds_toArray, List.set_cons_zero, List.set_cons_succ]
          refine takeH (i := 18) (d := some 51) (v := undef) rfl rfl (by kernel_rfl) (by kernel_rfl) (by kernel_rfl) (fun _ _ _ h => h) (Or.inr ⟨by rfl, rfl⟩) hS9 ?_
          try simp only [Act.put, List.setIfInBounds_toArray, List.set_cons_zero, List.set_cons_succ]
          refine takeH (i := 19) (d := some 52) (v := undef) rfl rfl (by kernel_rfl) (by kernel_rfl) (by kernel_rfl) (fun _ _ _ h => h) (Or.inr ⟨by rfl, rfl⟩) hS9 ?_
          try simp only [Act.put, List.setIfInBounds_toArray, List.set_cons_zero, List.set_cons_succ]
          refine takeH (i := 20) (d := some 53) (v := undef) rfl rfl (by kernel_rfl) (by kernel_rfl) (by kernel_rfl) (fun _ _ _ h => h) (Or.inr ⟨by rfl, rfl⟩) hS9 ?_
          try simp only [Act.put, List.setIfInBounds_toArray, List.set_cons_zero, List.set_cons_succ]
          refine takeH (i := 21) (d := some 54) (v := undef) rfl rfl (by kernel_rfl) (by kernel_rfl) (by kernel_rfl) (fun _ _ _ h => h) (Or.inr ⟨by rfl, rfl⟩) hS9 ?_
          try simp only [Act.put, List.setIfInBounds_toArray, List.set_cons_zero, List.set_cons_succ]
          refine takeH (i := 22) (d := some 55) (v := undef) rfl rfl (by kernel_rfl) (by kernel_rfl) (by kernel_rfl) (fun _ _ _ h => h) (Or.inr ⟨by rfl, rfl⟩) hS9 ?_
          try simp only [Act.put, List.setIfInBounds_toArray, List.set_cons_zero, List.set_cons_succ]
          refine takeH (i := 23) (d := some 56) (v := undef) rfl rfl (by kernel_rfl) (by kernel_rfl) (by kernel_rfl) (fun _ _ _ h => h) (Or.inr ⟨by rfl, rfl⟩) hS9 ?_
          try simp only [Act.put, List.setIfInBounds_toArray, List.set_cons_zero, List.set_cons_succ]
          refine takeH (i := 24) (d := some 57) (v := .bool false) rfl rfl (by kernel_rfl) (by kernel_rfl) (by kernel_rfl) (fun _ _ _ h => h) (Or.inl ⟨by rfl, fun w' _ => by go_simp⟩) hS9 ?_
          try simp only [Act.put, List.setIfInBounds_toArray, List.set_cons_zero, List.set_cons_succ]
          refine takeH (i := 25) (d := some 58) (v := .bool false) rfl rfl (by kernel_rfl) (by kernel_rfl) (by kernel_rfl) (fun _ _ _ h => h) (Or.inl ⟨by rfl, fun w' _ => by go_simp⟩) hS9 ?_
          try simp only [Act.put, List.setIfInBounds_toArray, List.set_cons_zero, List.set_cons_succ]
          refine wpAnyH_done (by kernel_rfl) ?_ _
          have s0 := hS9 _ (.head _)
          dsimp only at s0
          have HBB := hid (show Below w3.heap.size w3 w9 from hB.trans (((Below.refl _ wr).drew.trans hb9).mono hB.size))
          clear hS hS9 hb9 cK2 hB
          cases D
          · by_cases hxz : x = [122, 122, 57]
            · have q5 : (x == [122, 122, 57]) = true := by simpa using hxz
              have HE := hid (show decide ([122, 122, 57] ∈ L.take (0 + 1)) = true by rw [HS.out]; simp [hxz])
              clear HS
              go_wp2
              go_roundw
              case rel => exact ⟨(0 + 1), by omega, by rw [HE.out], by first | rfl | go_num, HBB.out⟩
              case measure => simp [intOf]; omega
            · have q5 : (x == [122, 122, 57]) = false := by simpa using hxz
              have HE := hid (show decide ([122, 122, 57] ∈ L.take (0 + 1)) = false by rw [HS.out]; simp [hxz])
              clear HS
              go_wp2
              go_roundw
              case rel => exact ⟨(0 + 1), by omega, by rw [HE.out], by first | rfl | go_num, HBB.out⟩
              case measure => simp [intOf]; omega
          · have HE := hid (show decide ([122, 122, 57] ∈ L.take (0 + 1)) = true by rw [HS.out]; simp)
            clear HS
            go_wp2
            go_roundw
            case rel => exact ⟨(0 + 1), by omega, by rw [HE.out], by first | rfl | go_num, HBB.out⟩
            case measure => simp [intOf]; omega
        · obtain ⟨m, rfl⟩ : ∃ m, k = m + 1 := ⟨k - 1, by omega⟩
          have d0 := hprev hk0
          have q4 : Op.bytesLess L[m + 1 - 1] x = true := by rw [bytesLess_eq]; exact decide_eq_true (hasc hk0)
          simp only [Nat.add_sub_cancel] at d0 q4
          generalize L[m] = y at *
          have b3 : ¬ ((m : Int) + 1 < 0) := by omega
          have b4 : ¬ (L.length ≤ m) := by omega
          have b5 : IntKind.i64.wrap (m : Int) = m := by rw [IntKind.wrap_i64]; omega
          have hS : Cells [(⟨g, o + (m + 1), none⟩, encS x), (⟨g, o + m, none⟩, encS y)] wr.drew := fun q hq => by
            rcases List.mem_cons.1 hq with rfl | hq
            · exact c0
            rcases List.mem_cons.1 hq with rfl | hq
            · exact d0
            · cases hq
          clear hprev hasc c0 d0 hk0
          go_wp2_with fail
          refine wp_region_held_drew (S := Cells [(⟨g, o + (m + 1), none⟩, encS x), (⟨g, o + m, none⟩, encS y)]) (by kernel_rfl) hS (fun _ => ?_)
          refine takeH (i := 0) (d := some 33) (v := .slice A t.length c) rfl rfl (by kernel_rfl) (by kernel_rfl) (by kernel_rfl) (fun _ _ _ h => h) (Or.inl ⟨by rfl, fun w' _ => by go_simp⟩) hS ?_
          try simp only [Act.put, List.setIfInBounds_toArray, List.set_cons_zero, List.set_cons_succ]
          refine takeH (i := 1) (d := some 34) (v := encS s) rfl rfl (by kernel_rfl) (by kernel_rfl) (by kernel_rfl) (fun _ _ _ h => h) (Or.inl ⟨by rfl, fun w' _ => by go_simp⟩) hS ?_
          try simp only [Act.put, List.setIfInBounds_toArray, List.set_cons_zero, List.set_cons_succ]
          refine takeH (i := 2) (d := some 35) (v := encS S1) rfl rfl (by kernel_rfl) (by kernel_rfl) (by kernel_rfl) (fun _ _ _ h => h) (Or.inl ⟨by rfl, fun w' _ => by go_simp⟩) hS ?_
          try simp only [Act.put, List.setIfInBounds_toArray, List.set_cons_zero, List.set_cons_succ]
          refine takeH (i := 3) (d := some 36) (v := .slice (some ⟨g, o, none⟩) L.length c') rfl rfl (by kernel_rfl) (by kernel_rfl) (by kernel_rfl) (fun _ _ _ h => h) (Or.inl ⟨by rfl, fun w' _ => by go_simp⟩) hS ?_
          try simp only [Act.put, List.setIfInBounds_toArray, List.set_cons_zero, List.set_cons_succ]
          refine takeH (i := 4) (d := some 37) (v := .int .i64 ((m : Int) + 1)) rfl rfl (by kernel_rfl) (by kernel_rfl) (by kernel_rfl) (fun _ _ _ h => h) (Or.inl ⟨by rfl, fun w' _ => by go_simp⟩) hS ?_
          try simp only [Act.put, List.setIfInBounds_toArray, List.set_cons_zero, List.set_cons_succ]
          refine takeH (i := 5) (d := some 38) (v := .pointer (some ⟨g, o + (m + 1), none⟩)) rfl rfl (by kernel_rfl) (by kernel_rfl) (by kernel_rfl) (fun _ _ _ h => h) (Or.inl ⟨by rfl, fun w' _ => by go_simp⟩) hS ?_
          try simp only [Act.put, List.setIfInBounds_toArray, List.set_cons_zero, List.set_cons_succ]
          refine takeH (i := 6) (d := some 39) (v := encS x) rfl rfl (by kernel_rfl) (by kernel_rfl) (by kernel_rfl) (fun _ _ _ h => h) (Or.inl ⟨by rfl, fun w' hS' => by have s0 := hS' _ (.head _); dsimp only at s0; go_simp⟩) hS ?_
          try simp only [Act.put, List.setIfInBounds_toArray, List.set_cons_zero, List.set_cons_succ]
          refine takeH (i := 7) (d := some 40) (v := encS SX) rfl rfl (by kernel_rfl) (by kernel_rfl) (by kernel_rfl) (fun _ _ _ h => h) (Or.inl ⟨by rfl, fun w' _ => by go_simp⟩) hS ?_
          try simp only [Act.put, List.setIfInBounds_toArray, List.set_cons_zero, List.set_cons_succ]
          refine wpAnyH_ready (rs := [8]) (by kernel_rfl) (by simp) (AllReadyH.cons rfl (fun K hK => ?_) AllReadyH.nil)
          go_simp
          go_at_call 14
          refine cK2.mono ?_
          rintro e w9 ⟨rfl, hb9⟩
          have hS9 := hS.below hb9
          go_wp2_with fail
          refine hK.out _ _ hS9 (fun _ => ?_)
          clear hK K
          try simp only [Act.put, List.setIfInBounds_toArray, List.set_cons_zero, List.set_cons_succ]
          refine takeH (i := 9) (d := some 42) (v := .bool false) rfl rfl (by kernel_rfl) (by kernel_rfl) (by kernel_rfl) (fun _ _ _ h => h) (Or.inl ⟨by rfl, fun w' _ => by go_simp⟩) hS9 ?_
          try simp only [Act.put, List.setIfInBounds_toArray, List.set_cons_zero, List.set_cons_succ]
          refine takeH (i := 10) (d := some 43) (v := .bool false) rfl rfl (by kernel_rfl) (by kernel_rfl) (by kernel_rfl) (fun _ _ _ h => h) (Or.inl ⟨by rfl, fun w' _ => by go_simp⟩) hS9 ?_
          try simp only [Act.put, List.setIfInBounds_toArray, List.set_cons_zero, List.set_cons_succ]
          refine takeH (i := 11) (d := some 44) (v := .int .i64 ((m : Int) + 1)) rfl rfl (by kernel_rfl) (by kernel_rfl) (by kernel_rfl) (fun _ _ _ h => h) (Or.inl ⟨by rfl, fun w' _ => by go_simp⟩) hS9 ?_
          try simp only [Act.put, List.setIfInBounds_toArray, List.set_cons_zero, List.set_cons_succ]
          refine takeH (i := 12) (d := some 45) (v := .bool true) rfl rfl (by kernel_rfl) (by kernel_rfl) (by kernel_rfl) (fun _ _ _ h => h) (Or.inl ⟨by rfl, fun w' _ => by go_simp⟩) hS9 ?_
          try simp only [Act.put, List.setIfInBounds_toArray, List.set_cons_zero, List.set_cons_succ]
          refine takeH (i := 13) (d := some 46) (v := .bool true) rfl rfl (by kernel_rfl) (by kernel_rfl) (by kernel_rfl) (fun _ _ _ h => h) (Or.inl ⟨by rfl, fun w' _ => by go_simp⟩) hS9 ?_
          try simp only [Act.put, List.setIfInBounds_toArray, List.set_cons_zero, List.set_cons_succ]
          refine takeH (i := 14) (d := some 47) (v := .slice (some ⟨g, o, none⟩) L.length c') rfl rfl (by kernel_rfl) (by kernel_rfl) (by kernel_rfl) (fun _ _ _ h => h) (Or.inl ⟨by rfl, fun w' _ => by go_simp⟩) hS9 ?_
          try simp only [Act.put, List.setIfInBounds_toArray, List.set_cons_zero, List.set_cons_succ]
          refine takeH (i := 15) (d := some 48) (v := .int .i64 ((m : Int) + 1)) rfl rfl (by kernel_rfl) (by kernel_rfl) (by kernel_rfl) (fun _ _ _ h => h) (Or.inl ⟨by rfl, fun w' _ => by go_simp⟩) hS9 ?_
          try simp only [Act.put, List.setIfInBounds_toArray, List.set_cons_zero, List.set_cons_succ]
          refine takeH (i := 16) (d := some 49) (v := .int .i64 (m : Int)) rfl rfl (by kernel_rfl) (by kernel_rfl) (by kernel_rfl) (fun _ _ _ h => h) (Or.inl ⟨by rfl, fun w' _ => by go_simp⟩) hS9 ?_
          try simp only [Act.put, List.setIfInBounds_toArray, List.set_cons_zero, List.set_cons_succ]
          refine takeH (i := 17) (d := some 50) (v := .pointer (some ⟨g, o + m, none⟩)) rfl rfl (by kernel_rfl) (by kernel_rfl) (by kernel_rfl) (fun _ _ _ h => h) (Or.inl ⟨by rfl, fun w' _ => by go_simp⟩) hS9 ?_
          try simp only [Act.put, List.setIfInBounds_toArray, List.set_cons_zero, List.set_cons_succ]
          refine takeH (i := 18) (d := some 51) (v := encS y) rfl rfl (by kernel_rfl) (by kernel_rfl) (by kernel_rfl) (fun _ _ _ h => h) (Or.inl ⟨by rfl, fun w' hS' => by have s1 := hS' _ (.tail _ (.head _)); dsimp only at s1; go_simp⟩) hS9 ?_
          try simp only [Act.put, List.setIfInBounds_toArray, List.set_cons_zero, List.set_cons_succ]
          refine takeH (i := 19) (d := some 52) (v := .slice (some ⟨g, o, none⟩) L.length c') rfl rfl (by kernel_rfl) (by kernel_rfl) (by kernel_rfl) (fun _ _ _ h => h) (Or.inl ⟨by rfl, fun w' _ => by go_simp⟩) hS9 ?_
          try simp only [Act.put, List.setIfInBounds_toArray, List.set_cons_zero, List.set_cons_succ]
          refine takeH (i := 20) (d := some 53) (v := .int .i64 ((m : Int) + 1)) rfl rfl (by kernel_rfl) (by kernel_rfl) (by kernel_rfl) (fun _ _ _ h => h) (Or.inl ⟨by rfl, fun w' _ => by go_simp⟩) hS9 ?_
          try simp only [Act.put, List.setIfInBounds_toArray, List.set_cons_zero, List.set_cons_succ]
          refine takeH (i := 21) (d := some 54) (v := .pointer (some ⟨g, o + (m + 1), none⟩)) rfl rfl (by kernel_rfl) (by kernel_rfl) (by kernel_rfl) (fun _ _ _ h => h) (Or.inl ⟨by rfl, fun w' _ => by go_simp⟩) hS9 ?_
          try simp only [Act.put, List.setIfInBounds_toArray, List.set_cons_zero, List.set_cons_succ]
          refine takeH (i := 22) (d := some 55) (v := encS x) rfl rfl (by kernel_rfl) (by kernel_rfl) (by kernel_rfl) (fun _ _ _ h => h) (Or.inl ⟨by rfl, fun w' hS' => by have s0 := hS' _ (.head _); dsimp only at s0; go_simp⟩) hS9 ?_
          try simp only [Act.put, List.setIfInBounds_toArray, List.set_cons_zero, List.set_cons_succ]
          refine takeH (i := 23) (d := some 56) (v := .bool false) rfl rfl (by kernel_rfl) (by kernel_rfl) (by kernel_rfl) (fun _ _ _ h => h) (Or.inl ⟨by rfl, fun w' _ => by go_simp⟩) hS9 ?_
          try simp only [Act.put, List.setIfInBounds_toArray, List.set_cons_zero, List.set_cons_succ]
          refine takeH (i := 24) (d := some 57) (v := .bool false) rfl rfl (by kernel_rfl) (by kernel_rfl) (by kernel_rfl) (fun _ _ _ h => h) (Or.inl ⟨by rfl, fun w' _ => by go_simp⟩) hS9 ?_
          try simp only [Act.put, List.setIfInBounds_toArray, List.set_cons_zero, List.set_cons_succ]
          refine takeH (i := 25) (d := some 58) (v := .bool false) rfl rfl (by kernel_rfl) (by kernel_rfl) (by kernel_rfl) (fun _ _ _ h => h) (Or.inl ⟨by rfl, fun w' _ => by go_simp⟩) hS9 ?_
          try simp only [Act.put, List.setIfInBounds_toArray, List.set_cons_zero, List.set_cons_succ]
          refine wpAnyH_done (by kernel_rfl) ?_ _
          have s0 := hS9 _ (.head _)
          dsimp only at s0
          have HBB := hid (show Below w3.heap.size w3 w9 from hB.trans (((Below.refl _ wr).drew.trans hb9).mono hB.size))
          clear hS hS9 hb9 cK2 hB
          cases D
          · by_cases hxz : x = [122, 122, 57]
            · have q5 : (x == [122, 122, 57]) = true := by simpa using hxz
              have HE := hid (show decide ([122, 122, 57] ∈ L.take (m + 1 + 1)) = true by rw [HS.out]; simp [hxz])
              clear HS
              go_wp2
              go_roundw
              case rel => exact ⟨(m + 1 + 1), by omega, by rw [HE.out], by first | rfl | go_num, HBB.out⟩
              case measure => simp [intOf]; omega
            · have q5 : (x == [122, 122, 57]) = false := by simpa using hxz
              have HE := hid (show decide ([122, 122, 57] ∈ L.take (m + 1 + 1)) = false by rw [HS.out]; simp [hxz])
              clear HS
              go_wp2
              go_roundw
              case rel => exact ⟨(m + 1 + 1), by omega, by rw [HE.out], by first | rfl | go_num, HBB.out⟩
              case measure => simp [intOf]; omega
          · have HE := hid (show decide ([122, 122, 57] ∈ L.take (m + 1 + 1)) = true by rw [HS.out]; simp)
            clear HS
            go_wp2
            go_roundw
            case rel => exact ⟨(m + 1 + 1), by omega, by rw [HE.out], by first | rfl | go_num, HBB.out⟩
            case measure => simp [intOf]; omega
      · obtain rfl : k = L.length := by omega
        rw [List.take_length]
        have HB := hid (HB3.out.trans (hB.mono HB3.out.size))
        have cP1 := cP wr HB.out
        obtain ⟨D, hD⟩ : ∃ D, decide ([122, 122, 57] ∈ L) = D := ⟨_, rfl⟩
        rw [hD]
        have b1 : s.length ≤ 9223372036854775803 := by omega
        clear hB cP cK HB3 HB1
        go_wp2_with fail
        refine cP1.mono ?_
        rintro e w5 ⟨a5, c5, rfl, hO5, hb5⟩
        have HB5 := hid (HB.out.trans (hb5.mono HB.out.size))
        have cM1 := cM a5 c5 w5 (OwnN.nodes hO5 |>.any) (own_cap hO5)
        clear hb5 hO5 cP1 cM
        by_cases hX : X2 = 0
        · subst hX
          obtain ⟨n1, n2, n3⟩ := HM.out.2.2.2.2 rfl
          subst n1
          have hM : (D = true ∧ M1.length = L.length) ∨ (D = false ∧ M1.length = L.length + 1) := by
            by_cases hZ : [122, 122, 57] ∈ L
            · exact .inl ⟨by rw [← hD]; exact decide_eq_true hZ, n2 hZ⟩
            · exact .inr ⟨by rw [← hD]; exact decide_eq_false hZ, n3 hZ⟩
          clear n2 n3 HM hD HX3
          go_wp2_with (go_at_call 9; refine (num_any _ _).mono ?_; rintro e w6 ⟨rfl, rfl⟩)
          refine cM1.mono ?_
          rintro e w6 ⟨a6, c6, rfl, hO6, hb6⟩
          have HB6 := hid (HB5.out.trans (hb6.mono HB5.out.size))
          clear hO6 hb6 cM1
          rcases hM with ⟨rfl, hM⟩ | ⟨rfl, hM⟩
          all_goals
            simp only [hM]
            clear hM
            go_wp2_with (go_at_call 9; refine (num_any _ _).mono ?_; rintro e w7 ⟨rfl, rfl⟩)
            go_ret
            exact ⟨rfl, HB6.out⟩
        · have q1 : (X2 == 0) = false := by simpa using hX
          have q1' : (X2 != 0) = true := by simpa using hX
          have hE : t.length = 256 ∨ ((t.length : Int) == 256) = false ∧ D = true := by
            by_cases h : t.length = 256
            · exact .inl h
            · exact .inr ⟨by simp; omega, by rw [← hD]; exact decide_eq_true ((HM.out.2.2.2.1 hX).resolve_left h)⟩
          clear HM hD HX3 cM1 hX
          rcases hE with hE | ⟨hE, rfl⟩
          · have q3 : ((t.length : Int) == 256) = true := by rw [hE]; rfl
            clear hE
            go_wp2_with (go_at_call 9; refine (num_any _ _).mono ?_; rintro e w6 ⟨rfl, rfl⟩)
            go_ret
            exact ⟨rfl, HB5.out⟩
          · go_wp2_with (go_at_call 9; refine (num_any _ _).mono ?_; rintro e w6 ⟨rfl, rfl⟩)
            go_ret
            exact ⟨rfl, HB5.out⟩
  · have hx := listQ_err he
    have q1 : ((listQ t s).2 == 0) = false := by simpa using he
    have q1' : ((listQ t s).2 != 0) = true := by simpa using he
    generalize listQ t s = X at *
    obtain ⟨X1, X2⟩ := X
    simp only at q1 q1' hx
    subst hx
    clear hT hz hzt he
    go_enter Try.func5, Try.ntmps5
    go_wp2_with fail
    refine cA.mono ?_
    rintro e w1 ⟨rfl, hb1⟩
    have HB1 := hid hb1
    have cL1 := cL w1 hb1
    clear hb1 cA cL
    go_wp2_with fail
    refine cL1.mono ?_
    rintro e w3 ⟨a, c', rfl, hO, hb3⟩
    have HB3 := hid (HB1.out.trans (hb3.mono HB1.out.size))
    clear hb3 cL1 hO
    go_wp2_with (go_at_call 9; refine (num_any _ _).mono ?_; rintro e w6 ⟨rfl, rfl⟩)
    go_ret
    exact ⟨rfl, HB3.out⟩
end Go.Proofs.Ytngllipfnbmpeaa
