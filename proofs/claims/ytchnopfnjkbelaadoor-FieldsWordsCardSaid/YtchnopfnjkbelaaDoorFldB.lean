/- The reference's Fields: the pieces cut, in memory of its own. Conditions: sizes. -/
import Derived.Test.YtchnopfnjkbelaaDoorFldA
import Derived.Deep.AppendLies
import Derived.Deep.Cut
namespace Go.Proofs.YtchnopfnjkbelaaDoor
open Go.RowKit
open Go.Lib (hid)

theorem info_fl : (Tryd.prog.info? 40).map (fun i => (i.zero, i.size, i.bytes)) = some (some (.slice none 0 0), 1, 24) := by kernel_rfl
theorem oc_blank (c : UInt8) : (((c.toNat : Int) == 32) = true ∧ blankO c = true) ∨ (((c.toNat : Int) == 32) = false ∧ ((c.toNat : Int) == 9) = true ∧ blankO c = true) ∨ (((c.toNat : Int) == 32) = false ∧ ((c.toNat : Int) == 9) = false ∧ ((c.toNat : Int) == 10) = true ∧ blankO c = true) ∨ (((c.toNat : Int) == 32) = false ∧ ((c.toNat : Int) == 9) = false ∧ ((c.toNat : Int) == 10) = false ∧ blankO c = false) := by
  by_cases h1 : c = 32
  · subst h1; exact .inl ⟨rfl, rfl⟩
  · by_cases h2 : c = 9
    · subst h2; exact .inr (.inl ⟨rfl, rfl, rfl⟩)
    · by_cases h3 : c = 10
      · subst h3; exact .inr (.inr (.inl ⟨rfl, rfl, rfl, rfl⟩))
      · exact .inr (.inr (.inr ⟨u8_ne (n := 32) h1, u8_ne (n := 9) h2, u8_ne (n := 10) h3, by simp [blankO, h1, h2, h3]⟩))

set_option maxRecDepth 100000 in
set_option maxHeartbeats 16000000 in
theorem rFields_any (A : Option Addr) (c : Nat) (l : List Pc) (ifs : List UInt8) (w : World) (hP : PcsP w (fun _ => True) (fun _ => True) A l) (hl : sizePs l ≤ 1099511627776) (hi : ifs.length ≤ 1099511627776) :
    Calls Tryd.prog 7 #[.slice A l.length c, .string ⟨ifs.toArray⟩] w fun e w' => ∃ a c' M, e = .returned (.slice a (fieldsL l ifs).length c') ∧ OwnF w' w.heap.size M a c' (fieldsL l ifs) ∧ Below w.heap.size w w' := by
  obtain ⟨i0, hi0, hz0, hz1, hz2⟩ := info_parts info_oc
  obtain ⟨j0, hj0, hy0, hy1, hy2⟩ := info_parts info_fl
  have hll := sizePs_len l
  go_enter Tryd.func7, Tryd.ntmps7
  go_wp2
  go_loopw [5, 6, 7, 8, 9] (fun vo vn vop vwh vi wr => ∃ (i : Nat) (s : Fs), i ≤ l.length ∧ vi = .int .i64 i ∧ vop = .bool s.opn ∧ vwh = .bool s.white ∧ Hid (s = runF ifs (l.take i)) ∧ Hid (StF w.heap.size w wr s vo vn)) (fun _ _ _ _ vi _ => l.length - (intOf vi).toNat)
  case atStart => exact ⟨0, ⟨[], [], false, false⟩, Nat.zero_le _, rfl, rfl, rfl, hid rfl, hid (stF_start w _ rfl rfl)⟩
  case round =>
    obtain ⟨i, s, hil, rfl, rfl, rfl, HS, HF⟩ := hrel
    by_cases hlt : i < l.length
    · obtain ⟨g, o, B, cc, rfl, -, c0, c1, c2, c3, hcc, hO⟩ := hP i hlt
      have HC := hid (fun W (hb : Below w.heap.size w W) => And.intro (cell_below hb c0) (And.intro (cell_below hb c1) (And.intro (cell_below hb c2) (And.intro (cell_below hb c3) (hO.below hb)))))
      have HS' := hid (run_succ ifs l i hlt)
      rw [← HS.out] at HS'
      have hsz : sizeF s + l[i].ch.length + 1 ≤ 1099511627776 := by
        have h1 := run_size ifs (l.take i) ⟨[], [], false, false⟩
        have h2 := sizePs_at l i hlt
        have e : sizeF ⟨[], [], false, false⟩ = 0 := rfl
        rw [HS.out]
        unfold runF
        omega
      generalize l[i] = p at *
      obtain ⟨ch, sp, kp, ct⟩ := p
      simp only at c0 c1 c2 c3 hcc hO hsz HC HS'
      have hbw : Below w.heap.size w wr := by obtain ⟨_, _, _, _, _, -, -, -, -, -, -, h7⟩ := HF.out; exact h7
      obtain ⟨b0, b1, b2, b3, -⟩ := HC.out wr hbw
      have hchl : ch.length ≤ 1099511627776 := by omega
      obtain ⟨s1, hs1⟩ : ∃ s1, keptO ⟨ch, sp, kp, ct⟩ s = s1 := ⟨_, rfl⟩
      have hks : sizeF s1 ≤ sizeF s := by rw [← hs1, kept_size]; omega
      have HF1 := hid (HF.out.flags (s' := s1) (by rw [← hs1]; unfold keptO; split <;> rfl) (by rw [← hs1]; unfold keptO; split <;> rfl))
      have hE : (kp = false ∧ Hid (s1.opn = s.opn ∧ s1.white = s.white)) ∨ (kp = true ∧ Hid (s1.opn = true ∧ s1.white = false)) := by
        cases kp
        · exact .inl ⟨rfl, hid (by rw [← hs1]; exact ⟨rfl, rfl⟩)⟩
        · exact .inr ⟨rfl, hid (by rw [← hs1]; exact ⟨rfl, rfl⟩)⟩
      have HS2 : Hid (runF ifs (l.take (i + 1)) = cutO ⟨ch, sp, kp, ct⟩ (ch.foldl (stepO sp ifs) s1)) := hid (by rw [HS'.out, ← hs1]; rfl)
      have hilt : i < 1099511627776 := by omega
      clear c0 c1 c2 c3 hO hcc HS HS' HF hP hl hll hbw hs1
      rcases hE with ⟨rfl, HE⟩ | ⟨rfl, HE⟩
      all_goals
        go_wp2
        clear b0 b1 b2 b3
        go_loopw [5, 6, 7, 8, 10] (fun vo vn vop vwh vk wi => ∃ (k : Nat) (z : Fs), k ≤ ch.length ∧ vk = .int .i64 k ∧ vop = .bool z.opn ∧ vwh = .bool z.white ∧ Hid (z = (ch.take k).foldl (stepO sp ifs) s1) ∧ Hid (StF w.heap.size w wi z vo vn)) (fun _ _ _ _ vk _ => ch.length - (intOf vk).toNat)
        case atStart => exact ⟨0, s1, Nat.zero_le _, rfl, by rw [HE.out.1], by rw [HE.out.2], hid rfl, HF1⟩
        case round =>
          obtain ⟨k, z, hk, rfl, rfl, rfl, HZ, HG⟩ := hrel
          obtain ⟨M, a, ca, a2, ca2, rfl, rfl, h3, h4, h5, h6, h7⟩ := HG.out
          obtain ⟨b0, b1, b2, b3, hO⟩ := HC.out wr h7
          have hzs : sizeF z ≤ sizeF s + k := by
            have e := fold_size sp ifs (ch.take k) s1
            rw [← HZ.out] at e
            rw [List.length_take] at e
            omega
          by_cases hkl : k < ch.length
          · obtain ⟨gB, oB, rfl, -, d0, d1⟩ := hO k hkl
            have HN := hid (steps_succ sp ifs ch s1 k hkl)
            rw [← HZ.out] at HN
            generalize ch[k] = oc at *
            obtain ⟨x, q⟩ := oc
            obtain ⟨zo, zn, zop, zw⟩ := z
            simp only [sizeF] at d0 d1 h3 h4 hzs hks hsz HN ⊢
            have cI := fun W => rIn_any ifs x W (by omega)
            obtain ⟨D, hD⟩ : ∃ D, decide (x ∈ ifs) = D := ⟨_, rfl⟩
            rw [hD] at cI
            have HN : Hid ((ch.take (k + 1)).foldl (stepO sp ifs) s1 = if (sp && !q && D) = true then (if zop then (⟨zo ++ [zn], [], false, blankO x⟩ : Fs) else if blankO x then ⟨zo, zn, zop, zw⟩ else if zw then ⟨zo, zn, zop, false⟩ else ⟨zo ++ [[]], zn, zop, zw⟩) else ⟨zo, zn ++ [(x, q)], true, false⟩) := hid (by rw [HN.out]; unfold stepO cutsO; rw [hD])
            obtain ⟨W2, hW2⟩ : ∃ W2, wr.alloc (.cells #[.int .u8 x.toNat, .bool q] 50) = W2 := ⟨_, rfl⟩
            have hal2 : Below wr.heap.size wr W2 := by rw [← hW2]; exact (Below.refl _ _).alloc (Nat.le_refl _) _
            have hbx : W2.heap[wr.heap.size]? = some (.cells #[.int .u8 x.toNat, .bool q] 50 (0, 0)) := by rw [← hW2]; exact heap_alloc_new _ _
            have x0 : W2.cell? ⟨wr.heap.size, 0, none⟩ = some (.int .u8 x.toNat) := by simp [World.cell?, hbx]
            have x1 : W2.cell? ⟨wr.heap.size, 1, none⟩ = some (.bool q) := by simp [World.cell?, hbx]
            have y0 : W2.frozen? ⟨wr.heap.size, 0, none⟩ = false := by simp [World.frozen?, hbx]
            have y1 : W2.frozen? ⟨wr.heap.size, 1, none⟩ = false := by simp [World.frozen?, hbx]
            have e0 := cell_below hal2 b0; have e1 := cell_below hal2 b1
            have hzl : zo.length + zn.length + 1 ≤ 1099511627776 := by omega
            have hK := hid (show k + 1 ≤ ch.length by omega)
            have hs2 := hal2.size
            have h4' := own_below h4 hal2
            obtain ⟨vs, hv1, hv2, hv3⟩ := h3
            have hv2' := own_below hv2 hal2
            clear hO HZ HC HF1 HE hbx hD hzs hks hsz
            go_upto_region 13 with (fail)
            clear hW2 y0 y1 b0 b1 b2 b3 d0 d1
            by_cases hcut : (sp && !q && D) = true
            · have HN : Hid ((ch.take (k + 1)).foldl (stepO sp ifs) s1 = if zop then (⟨zo ++ [zn], [], false, blankO x⟩ : Fs) else if blankO x then ⟨zo, zn, zop, zw⟩ else if zw then ⟨zo, zn, zop, false⟩ else ⟨zo ++ [[]], zn, zop, zw⟩) := hid (by rw [HN.out, if_pos hcut])
              obtain ⟨rfl, rfl, rfl⟩ : sp = true ∧ q = false ∧ D = true := by cases sp <;> cases q <;> cases D <;> simp_all
              clear hcut
              rcases zop with _ | _
              · rcases oc_blank x with ⟨t1, hbl⟩ | ⟨t1, t2, hbl⟩ | ⟨t1, t2, t3, hbl⟩ | ⟨t1, t2, t3, hbl⟩
                rotate_right
                · rcases zw with _ | _
                  · have HM := hid (HN.out.trans (show _ = (⟨zo ++ [[]], zn, false, false⟩ : Fs) from by rw [hbl]; rfl))
                    clear hbl HN HG
                    go_wp2_with (first | (go_at_call 22; (with_reducible refine (cI _).mono ?_); rintro e w9 ⟨rfl, hw9⟩; obtain rfl : W2 = w9 := hw9) | (at_builtin; refine wpList_append_own _ rfl _ _ 23 rfl w.heap.size 40 j0 _ 1 24 Tryd.underlying23 hj0 hy0 hy1 hy2 rfl (by decide) _ _ _ rfl (World.ownsRow.alloc (w := W2) hv2' _) ⟨W2.heap.size, 0, none⟩ 1 1 [.slice none 0 0] rfl rfl (World.news_of_block (cs := #[.slice none 0 0]) (t := 40) (fr := (0, 0)) (heap_alloc_new W2 _)) (by intro u hu; simp at hu; subst hu; rfl) (by unfold maxLen; omega) (by omega) (by simp; omega) ?_; intro v8 w8 hown8 hg8 _))
                    obtain ⟨g8, c8, rfl⟩ := ownsRow_succ hown8
                    have HR := hid (StF.fin_nil (s := ⟨zo, zn, false, false⟩) (s' := ⟨zo ++ [[]], zn, false, false⟩) hv1 hv2 hv3 h4 h5 h6 h7 (hal2.alloc hs2 _) hg8 hown8 rfl rfl)
                    clear hown8 hg8 hv1 hv2 hv3 hv2' h4 h4' h5 h6 h7 hal2
                    go_wp2_with fail
                    go_roundw
                    case rel => exact ⟨k + 1, ⟨zo ++ [[]], zn, false, false⟩, hK.out, by go_num, rfl, rfl, hid HM.out.symm, hid HR.out⟩
                    case measure => simp [intOf]; omega
                  · have HM := hid (HN.out.trans (show _ = (⟨zo, zn, false, false⟩ : Fs) from by rw [hbl]; rfl))
                    have HR := hid ((HG.out.below hal2).flags (s' := ⟨zo, zn, false, false⟩) rfl rfl)
                    clear hbl HN HG hv1 hv2 hv3 hv2' h4 h4' h5 h6 h7 hal2
                    go_wp2_with ((go_at_call 22; (with_reducible refine (cI _).mono ?_); rintro e w9 ⟨rfl, hw9⟩; obtain rfl : W2 = w9 := hw9))
                    go_roundw
                    case rel => exact ⟨k + 1, ⟨zo, zn, false, false⟩, hK.out, by go_num, rfl, rfl, hid HM.out.symm, hid HR.out⟩
                    case measure => simp [intOf]; omega
                all_goals
                  have HM := hid (HN.out.trans (show _ = (⟨zo, zn, false, zw⟩ : Fs) from by rw [hbl]; rfl))
                  have HR := hid (HG.out.below hal2)
                  clear hbl HN HG hv1 hv2 hv3 hv2' h4 h4' h5 h6 h7 hal2
                  go_wp2_with ((go_at_call 22; (with_reducible refine (cI _).mono ?_); rintro e w9 ⟨rfl, hw9⟩; obtain rfl : W2 = w9 := hw9))
                  go_roundw
                  case rel => exact ⟨k + 1, ⟨zo, zn, false, zw⟩, hK.out, by go_num, rfl, rfl, hid HM.out.symm, hid HR.out⟩
                  case measure => simp [intOf]; omega
              · have HM := hid (HN.out.trans (show _ = (⟨zo ++ [zn], [], false, blankO x⟩ : Fs) from rfl))
                clear HN HG
                rcases oc_blank x with ⟨t1, hbl⟩ | ⟨t1, t2, hbl⟩ | ⟨t1, t2, t3, hbl⟩ | ⟨t1, t2, t3, hbl⟩
                all_goals
                  have HBL := hid hbl
                  clear hbl
                  go_wp2_with (first | (go_at_call 22; (with_reducible refine (cI _).mono ?_); rintro e w9 ⟨rfl, hw9⟩; obtain rfl : W2 = w9 := hw9) | (at_builtin; refine wpList_append_own _ rfl _ _ 23 rfl w.heap.size 40 j0 _ 1 24 Tryd.underlying23 hj0 hy0 hy1 hy2 rfl (by decide) _ _ _ rfl (World.ownsRow.alloc (w := W2) hv2' _) ⟨W2.heap.size, 0, none⟩ 1 1 [.slice a2 zn.length ca2] rfl rfl (World.news_of_block (cs := #[.slice a2 zn.length ca2]) (t := 40) (fr := (0, 0)) (heap_alloc_new W2 _)) (by intro u hu; simp at hu; subst hu; rfl) (by unfold maxLen; omega) (by omega) (by simp; omega) ?_; intro v8 w8 hown8 hg8 _))
                  obtain ⟨g8, c8, rfl⟩ := ownsRow_succ hown8
                  have HR := hid (StF.fin_now (s := ⟨zo, zn, true, zw⟩) (s' := ⟨zo ++ [zn], [], false, blankO x⟩) hv1 hv2 hv3 h4 h5 h6 h7 (hal2.alloc hs2 _) hg8 hown8 rfl rfl)
                  clear hown8 hg8 hv1 hv2 hv3 hv2' h4 h4' h5 h6 h7 hal2
                  go_wp2_with fail
                  go_roundw
                  case rel => exact ⟨k + 1, ⟨zo ++ [zn], [], false, blankO x⟩, hK.out, by go_num, rfl, by simp only [HBL.out], hid HM.out.symm, hid HR.out⟩
                  case measure => simp [intOf]; omega
            · have HM : Hid ((ch.take (k + 1)).foldl (stepO sp ifs) s1 = ⟨zo, zn ++ [(x, q)], true, false⟩) := hid (by rw [HN.out, if_neg hcut])
              have hw : sp = false ∨ (sp = true ∧ q = true) ∨ (sp = true ∧ q = false ∧ D = false) := by cases sp <;> cases q <;> cases D <;> simp_all
              have h3' : OwnF wr w.heap.size M a ca zo := ⟨vs, hv1, hv2, hv3⟩
              have HP := hid (And.intro h3' (And.intro h4 h7))
              clear hcut HN HG hv1 hv2 hv3 hv2' h3' h4 h7
              rcases hw with rfl | ⟨rfl, rfl⟩ | ⟨rfl, rfl, rfl⟩
              all_goals
                rcases oc_blank x with ⟨t1, -⟩ | ⟨t1, t2, -⟩ | ⟨t1, t2, t3, -⟩ | ⟨t1, t2, t3, -⟩
                all_goals
                  go_wp2_with (first | (go_at_call 22; (with_reducible refine (cI _).mono ?_); rintro e w9 ⟨rfl, hw9⟩; obtain rfl : W2 = w9 := hw9) | (at_builtin; refine wpList_append_own _ rfl _ _ 40 rfl M 50 i0 _ 2 2 Tryd.underlying40 hi0 hz0 hz1 hz2 rfl (by decide) _ _ _ rfl (World.ownsRow.alloc (w := W2) h4' _) ⟨W2.heap.size, 0, none⟩ 1 1 (cellsO (x, _)) rfl rfl (World.news_of_block (cs := #[.int .u8 x.toNat, .bool _]) (t := 50) (fr := (0, 0)) (heap_alloc_new W2 _)) (by simp [cellsO, Value.oneCell']) (by unfold maxLen; omega) (by omega) (by simp; omega) ?_; intro v8 w8 hown8 hg8 _))
                  obtain ⟨g8, c8, rfl⟩ := ownsRow_succ hown8
                  have HR := hid (StF.put (s := ⟨zo, zn, zop, zw⟩) (s' := ⟨zo, zn ++ [(x, _)], true, false⟩) (o := (x, _)) HP.out.1 HP.out.2.1 h5 h6 HP.out.2.2 (hal2.alloc hs2 _) hg8 hown8 rfl rfl)
                  clear hown8 hg8 h4' h5 h6 hal2
                  go_wp2_with fail
                  go_roundw
                  case rel => exact ⟨k + 1, ⟨zo, zn ++ [(x, _)], true, false⟩, hK.out, by go_num, rfl, rfl, hid HM.out.symm, hid HR.out⟩
                  case measure => simp [intOf]; omega
          · obtain rfl : k = ch.length := by omega
            rw [List.take_length] at HZ
            rw [← HZ.out] at HS2
            have HN := hid (show i + 1 ≤ l.length by omega)
            obtain ⟨vs, hv1, hv2, hv3⟩ := h3
            obtain ⟨zo, zn, zop, zw⟩ := z
            simp only [sizeF] at h4 hv1 hv2 hv3 hzs hks hsz HS2 ⊢
            have hol : zo.length + 1 ≤ 1099511627776 := by omega
            clear HZ HF1 HE HC hO
            cases ct
            · have HR := hid HG.out
              clear h4 h5 h6 h7 hv1 hv2 hv3 HG
              go_wp2
              go_roundw
              case rel => exact ⟨i + 1, ⟨zo, zn, zop, zw⟩, HN.out, by go_num, rfl, rfl, hid HS2.out.symm, hid HR.out⟩
              case measure => simp [intOf]; omega
            · clear HG
              go_wp2_with (at_builtin; refine wpList_append_own _ rfl _ _ 23 rfl w.heap.size 40 j0 _ 1 24 Tryd.underlying23 hj0 hy0 hy1 hy2 rfl (by decide) _ _ _ rfl (World.ownsRow.alloc (w := wr) hv2 _) ⟨wr.heap.size, 0, none⟩ 1 1 [.slice a2 zn.length ca2] rfl rfl (World.news_of_block (cs := #[.slice a2 zn.length ca2]) (t := 40) (fr := (0, 0)) (heap_alloc_new wr _)) (by intro u hu; simp at hu; subst hu; rfl) (by unfold maxLen; omega) (by omega) (by simp; omega) ?_; intro v8 w8 hown8 hg8 _)
              obtain ⟨g8, c8, rfl⟩ := ownsRow_succ hown8
              have HR := hid (StF.fin_now (s := ⟨zo, zn, zop, zw⟩) (s' := ⟨zo ++ [zn], [], false, false⟩) hv1 hv2 hv3 h4 h5 h6 h7 ((Below.refl _ wr).alloc (Nat.le_refl _) _) hg8 hown8 rfl rfl)
              clear hown8 hg8 hv1 hv2 hv3 h4 h5 h6 h7
              go_wp2_with fail
              go_roundw
              case rel => exact ⟨i + 1, ⟨zo ++ [zn], [], false, false⟩, HN.out, by go_num, rfl, rfl, hid HS2.out.symm, hid HR.out⟩
              case measure => simp [intOf]; omega
    · obtain rfl : i = l.length := by omega
      rw [List.take_length] at HS
      have HE : Hid (fieldsL l ifs = if s.opn then s.out ++ [s.now] else s.out) := hid (by rw [HS.out]; rfl)
      have hsz : s.out.length + s.now.length ≤ 1099511627776 := by
        have := run_size ifs l ⟨[], [], false, false⟩
        rw [HS.out]
        have e : sizeF ⟨[], [], false, false⟩ = 0 := rfl
        unfold runF
        unfold sizeF at this e
        omega
      obtain ⟨M, a, ca, a2, ca2, rfl, rfl, h3, h4, h5, h6, h7⟩ := HF.out
      obtain ⟨so, sn, sop, sw⟩ := s
      simp only at h3 h4 hsz HE ⊢
      clear HS HF hP
      cases sop
      · have HR := hid (And.intro h3 h7)
        clear h3 h4 h5 h6 h7
        go_wp2
        go_ret
        rw [HE.out]
        exact ⟨a, ca, M, rfl, HR.out.1, HR.out.2⟩
      · have hcap := own_capO h4
        have HR := hid (And.intro h3 (And.intro h4 h7))
        obtain ⟨vs, hv1, hv2, hv3⟩ := h3
        clear h4 h7
        go_wp2_with (at_builtin; go_loud (refine wpList_append_own _ rfl _ _ 23 rfl w.heap.size 40 j0 _ 1 24 Tryd.underlying23 hj0 hy0 hy1 hy2 rfl (by decide) _ _ _ rfl (World.ownsRow.alloc (w := wr) hv2 _) ⟨wr.heap.size, 0, none⟩ 1 1 [.slice a2 sn.length ca2] rfl rfl (World.news_of_block (cs := #[.slice a2 sn.length ca2]) (t := 40) (fr := (0, 0)) (heap_alloc_new wr _)) (by intro u hu; simp at hu; subst hu; rfl) (by unfold maxLen; omega) (by omega) (by simp; omega) ?_; intro v8 w8 hown8 hg8 _))
        obtain ⟨g8, c8, rfl⟩ := ownsRow_succ hown8
        obtain ⟨k1, k2, k3, k4⟩ := StF.fin (s := ⟨so, sn, true, sw⟩) hv1 hv2 hv3 HR.out.2.1 h5 h6 HR.out.2.2 ((Below.refl _ wr).alloc (Nat.le_refl _) _) hg8 hown8
        have HQ := hid (And.intro k1 k4)
        clear k1 k2 k3 k4 hown8 hg8 hv1 hv2 hv3 h5 h6
        go_wp2_with fail
        go_ret
        rw [HE.out]
        first | exact ⟨some ⟨g8, 0, none⟩, c8, by simp, ⟨_, HQ.out.1⟩, HQ.out.2⟩ | exact ⟨some ⟨g8, 0, none⟩, c8, ⟨_, HQ.out.1⟩, HQ.out.2⟩
end Go.Proofs.YtchnopfnjkbelaaDoor
