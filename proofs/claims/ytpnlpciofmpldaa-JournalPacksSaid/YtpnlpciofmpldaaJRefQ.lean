/- Contract of the reference's Pack, where it packs. -/
import Derived.Test.YtpnlpciofmpldaaJRefP
namespace Go.Proofs.Ytpnlpciofmpldaa
open Go.ChangeShapes Go.WideShapes Go.ChangeAt Go.RowKit Go.PlainAid
attribute [local go_sem ↓ high] app_text

theorem filled_same {t : ByteArray} (h : t.size = 256) : filled t = t := text_ext (by rw [filled_size, h]) fun k hk => by rw [filled_size] at hk; exact filled_bt t hk
theorem chunk_full (s : ByteArray) {k : Nat} (h : k + 1 < chunks s.size) : chunkN s.size k = 256 := by unfold chunkN; unfold chunks at h; omega
/-- The first blocks of numbers. -/
def numK (s : ByteArray) (k : Nat) : List Value := (List.range k).map fun k => .string (filled (chunkT s k))
theorem numK_succ (s : ByteArray) (k : Nat) : numK s (k + 1) = numK s k ++ [.string (filled (chunkT s k))] := by unfold numK; rw [List.range_succ, List.map_append]; rfl
theorem numK_length (s : ByteArray) (k : Nat) : (numK s k).length = k := by unfold numK; rw [List.length_map, List.length_range]
/-- The length of a text. -/
def strLen : Value → Nat
  | .string t => t.size
  | _ => 0
theorem rest_size (s : ByteArray) (k : Nat) : (s.extract (256 * k) s.size).size = s.size - 256 * k := by rw [ByteArray.size_extract, Nat.min_self]
theorem rest_first (s : ByteArray) {k : Nat} (h : k + 1 < chunks s.size) : (s.extract (256 * k) s.size).extract 0 256 = chunkT s k := by
  rw [ext_ext _ _ _ _ _ (by unfold chunks at h; omega)]
  unfold chunkT
  rw [chunk_full s h, Nat.add_zero]
theorem rest_next (s : ByteArray) {k : Nat} (h : k + 1 < chunks s.size) : (s.extract (256 * k) s.size).extract 256 (s.size - 256 * k) = s.extract (256 * (k + 1)) s.size := by
  have h2 : 256 * k + 256 ≤ s.size := by unfold chunks at h; omega
  rw [ext_ext _ _ _ _ _ (by omega), show 256 * k + 256 = 256 * (k + 1) by omega, show 256 * k + (s.size - 256 * k) = s.size by omega]
theorem rest_last (s : ByteArray) {k : Nat} (h : k + 1 = chunks s.size) : s.extract (256 * k) s.size = chunkT s k := by
  unfold chunkT chunkN
  rw [show 256 * k + min 256 (s.size - 256 * k) = s.size by unfold chunks at h; omega]
set_option maxRecDepth 100000 in
set_option maxHeartbeats 4000000 in
theorem rpack_ok (w : World) (v : Value) (l : List PageV) (hl : PagesIn w v l) (hlen : l.length ≤ 1024) (hok : ∀ p ∈ l, p.err = 0) :
    Calls Try.prog 14 #[v] w fun e w' => ∃ sv, e = .returned (.tuple #[sv, .int .i64 0]) ∧ w'.ownsRow w.heap.size 9 1 sv (packT l).length (packT l) ∧ Below w.heap.size w w' := by
  have hv : ∃ ao cap, v = .slice ao l.length cap := by
    rcases hl with ⟨rfl, ao, cap, rfl⟩ | ⟨b, o, cap, rfl, _⟩
    · exact ⟨_, _, rfl⟩
    · exact ⟨_, _, rfl⟩
  obtain ⟨ao, cap, rfl⟩ := hv
  have H0 := Lib.hid hl
  clear hl
  have hbig : decide ((1024 : Int) < (l.length : Int)) = false := decide_eq_false (by omega)
  have hu0 : IntKind.wrap .u64 (l.length : Int) = uZ (l.length : Int) := by rw [IntKind.wrap_u64]; rfl
  go_enter Try.func14, Try.ntmps14
  go_wp2_with fail
  refine (rfixed_any (uZ (l.length : Int)) 4 _ (uZ_b _).1 (uZ_b _).2 (by decide) (by decide)).mono ?_
  rintro e w1 ⟨rfl, hb1⟩
  have HB1 := Lib.hid hb1
  clear hb1
  go_wp2_with fail
  go_loopw [4, 5] (fun s i wr => ∃ k : Nat, k ≤ l.length ∧ i = .int .i64 k ∧ s = .string (headT (l.length : Int) (l.take k)) ∧ Below w.heap.size w wr) (fun _ i _ => l.length - (intOf i).toNat)
  case atStart => exact ⟨0, Nat.zero_le _, rfl, rfl, HB1.out⟩
  case round =>
    clear HB1
    obtain ⟨k, hk, rfl, rfl, hB⟩ := hrel
    have HB := Lib.hid hB
    clear hB
    by_cases hlt : k < l.length
    · obtain ⟨x, hx⟩ : ∃ x, l[k]? = some x := ⟨_, List.getElem?_eq_getElem hlt⟩
      rcases H0.out with ⟨rfl, _⟩ | ⟨b, o, cap', hvv, hbl, _, _, hr⟩
      · simp at hlt
      · cases hvv
        obtain ⟨hxw, hxr⟩ := hr k x hx
        have hxr2 := rangeAt_keep hxr (HB.out.block b hbl)
        obtain ⟨p0, p1, p2⟩ := err_zero (hok x (List.mem_of_getElem? hx))
        have e0 := hxr2 0 _ rfl
        have e1 := hxr2 1 _ rfl
        rw [Nat.add_zero] at e0
        have hx2 : l.take (k + 1) = l.take k ++ [x] := by rw [List.take_add_one, hx]; rfl
        have HT := Lib.hid hx2
        have d1 : decide (x.at_ < 0) = false := decide_eq_false (by omega)
        have d2 : decide (2048 ≤ x.at_) = false := decide_eq_false (by omega)
        have d3 : decide ((256 : Int) < (x.data.size : Int)) = false := decide_eq_false (by omega)
        have hu : IntKind.wrap .u64 x.at_ = uZ x.at_ := by rw [IntKind.wrap_u64]; rfl
        have hz := headT_size (l.length : Int) k l (by omega)
        have hcat := fun w => run_string_add_sum (P := Try.prog) w (headT (l.length : Int) (l.take k)) (fixS (uZ x.at_) 4) (by rw [hz, fixS4_size]; omega)
        clear hr hxr hxr2 hx hxw hx2 p0 p1 p2 hz
        go_wp2_with fail
        refine (rfixed_any (uZ x.at_) 4 _ (uZ_b _).1 (uZ_b _).2 (by decide) (by decide)).mono ?_
        rintro e w4 ⟨rfl, hb4⟩
        have HB4 := Lib.hid (HB.out.on hb4)
        clear hb4
        go_wp2
        go_roundw
        case rel => exact ⟨k + 1, by omega, by go_num, by rw [HT.out, headT_snoc], HB4.out⟩
        case measure => simp [intOf]; omega
    · obtain rfl : k = l.length := by omega
      rw [List.take_length]
      have hS : (headT (l.length : Int) l).size = 4 + 4 * l.length := by have := headT_size (l.length : Int) l.length l (Nat.le_refl _); rwa [List.take_length] at this
      obtain ⟨S, hSS⟩ : ∃ S, headT (l.length : Int) l = S := ⟨_, rfl⟩
      rw [hSS] at hS ⊢
      have HSS := Lib.hid hSS
      have HS := Lib.hid hS
      clear hSS hS hu0
      go_wp2_with fail
      go_loopw [4, 6] (fun s out wr => ∃ k : Nat, k + 1 ≤ chunks S.size ∧ s = .string (S.extract (256 * k) S.size) ∧ wr.ownsRow w.heap.size 9 1 out (numK S k).length (numK S k) ∧ Below w.heap.size w wr) (fun s _ _ => strLen s)
      case atStart => exact ⟨0, by have := HS.out; unfold chunks; omega, by rw [ext_full S rfl], World.ownsRow_nil _ _ _ _, HB.out⟩
      case round =>
        clear HB
        obtain ⟨k, hk, rfl, hrow, hB⟩ := hrel
        have hlk : (numK S k).length ≤ 1048576 := by rw [numK_length]; have := HS.out; unfold chunks at hk; omega
        have hsz := rest_size S k
        have HB := Lib.hid hB
        by_cases hlt : k + 1 < chunks S.size
        · have E1 := rest_first S hlt
          have E2 : (S.extract (256 * k) S.size).extract 256 (S.extract (256 * k) S.size).size = S.extract (256 * (k + 1)) S.size := by rw [hsz]; exact rest_next S hlt
          have hm : strLen (.string (S.extract (256 * (k + 1)) S.size)) < strLen (.string (S.extract (256 * k) S.size)) := by
            show (S.extract (256 * (k + 1)) S.size).size < (S.extract (256 * k) S.size).size
            rw [rest_size, rest_size]
            unfold chunks at hlt
            omega
          have hd : (256 : Int) < ((S.extract (256 * k) S.size).size : Int) := by rw [hsz]; unfold chunks at hlt; omega
          obtain ⟨gg, cp, w2, p1, p2, p3⟩ := row_push hrow hB.size hlk ((S.extract (256 * k) S.size).extract 0 256) k (numK_length S k)
          rw [E1] at p2
          have he : filled (chunkT S k) = chunkT S k := filled_same (by rw [chunkT_size]; exact chunk_full S hlt)
          have e2 : numK S k ++ [Value.string (chunkT S k)] = numK S (k + 1) := by rw [numK_succ, he]
          rw [e2] at p2
          have P2 := Lib.hid p2
          have P3 := Lib.hid p3
          have HM := Lib.hid hm
          have HE2 := Lib.hid E2
          rw [← E2] at HM
          generalize S.extract (256 * k) S.size = s0 at *
          clear hrow hB hlk hsz p2 p3 he hm e2 E1 E2
          go_wp2_with fail
          go_roundw
          case rel => exact ⟨k + 1, hlt, by rw [HE2.out], P2.out, HB.out.trans P3.out⟩
          case measure => exact HM.out
        · have hlast : k + 1 = chunks S.size := by omega
          rw [rest_last S hlast]
          have hcz : (chunkT S k).size ≤ 256 := by rw [chunkT_size]; unfold chunkN; omega
          have hd : ¬ (256 : Int) < ((chunkT S k).size : Int) := by omega
          have HROW := Lib.hid hrow
          have HLK := Lib.hid hlk
          have HCZ := Lib.hid hcz
          clear hrow hlk hsz hcz hB
          go_wp2_with fail
          refine (filled_any (chunkT S k) wr HCZ.out).mono ?_
          rintro e w5 ⟨rfl, hb5⟩
          have hB5 := HB.out.on hb5
          obtain ⟨gg, cp, w2, p1, p2, p3⟩ := row_push (ownsRow_on HROW.out hb5) hB5.size HLK.out (filled (chunkT S k)) k (numK_length S k)
          have e2 : numK S k ++ [Value.string (filled (chunkT S k))] = numT S := by rw [← numK_succ, hlast]; rfl
          rw [e2, hlast] at p2
          have P2 : Hid (w2.ownsRow w.heap.size 9 1 (.slice (some ⟨gg, 0, none⟩) (chunks S.size) cp) (numT S).length (numT S)) := p2
          have HB6 := Lib.hid (hB5.trans p3)
          clear p2 p3 hb5 hB5 HROW HLK HCZ HB e2
          go_wp2_with fail
          go_loopw [6, 7] (fun out i wr => ∃ k : Nat, k ≤ l.length ∧ i = .int .i64 k ∧ wr.ownsRow w.heap.size 9 1 out (numT S ++ pageT (l.take k)).length (numT S ++ pageT (l.take k)) ∧ Below w.heap.size w wr) (fun _ i _ => l.length - (intOf i).toNat)
          case atStart => exact ⟨0, Nat.zero_le _, rfl, by rw [List.take_zero, show pageT [] = [] from rfl, List.append_nil]; exact P2.out, HB6.out⟩
          case round =>
            clear P2 HB6 p1 hlast hk hlt hd
            obtain ⟨k, hk, rfl, hrow, hB⟩ := hrel
            have HB := Lib.hid hB
            have HROW := Lib.hid hrow
            have HLK : Hid ((numT S ++ pageT (l.take k)).length ≤ 1048576) := by
              show _ ≤ _
              have := HS.out
              unfold numT pageT
              rw [List.length_append, List.length_map, List.length_map, List.length_range, List.length_take]
              unfold chunks
              omega
            clear hB hrow
            by_cases hlt : k < l.length
            · obtain ⟨x, hx⟩ : ∃ x, l[k]? = some x := ⟨_, List.getElem?_eq_getElem hlt⟩
              rcases H0.out with ⟨rfl, _⟩ | ⟨b, o, cap', hvv, hbl, _, _, hr⟩
              · simp at hlt
              · cases hvv
                obtain ⟨hxw, hxr⟩ := hr k x hx
                have hxr2 := rangeAt_keep hxr (HB.out.block b hbl)
                have hx0 := (err_zero (hok x (List.mem_of_getElem? hx))).2.2
                have e1 := hxr2 1 _ rfl
                have hx2 : l.take (k + 1) = l.take k ++ [x] := by rw [List.take_add_one, hx]; rfl
                have HT := Lib.hid hx2
                have HX0 := Lib.hid hx0
                clear hr hxr hxr2 hx hx0 hxw hx2
                go_wp2_with fail
                refine (filled_any x.data wr HX0.out).mono ?_
                rintro e w5 ⟨rfl, hb5⟩
                have hB5 := HB.out.on hb5
                obtain ⟨m, hm⟩ : ∃ m, (numT S ++ pageT (l.take k)).length = m := ⟨_, rfl⟩
                obtain ⟨gg, cp, w2, p1, p2, p3⟩ := row_push (ownsRow_on HROW.out hb5) hB5.size HLK.out (filled x.data) m hm
                clear hm
                have P2 := Lib.hid p2
                have HB6 := Lib.hid (hB5.trans p3)
                clear p2 p3 hb5 hB5
                go_wp2_with fail
                go_roundw
                case rel => exact ⟨k + 1, by omega, by go_num, by rw [HT.out, pageT_snoc, ← List.append_assoc]; exact P2.out, HB6.out⟩
                case measure => simp [intOf]; omega
            · obtain rfl : k = l.length := by omega
              rw [List.take_length] at HROW
              have HPT : Hid (packT l = numT S ++ pageT l) := by unfold packT Hid; rw [HSS.out]
              go_wp2
              go_returns
              exact ⟨_, rfl, by rw [HPT.out]; exact HROW.out, HB.out⟩
end Go.Proofs.Ytpnlpciofmpldaa
