import Derived.Deep.CutBlock
import Derived.Deep.RegionHeld3
import Derived.Lib.QuietBelow
import Derived.Test.YtjnfghhochcpaaaGreatMg42
namespace Go.Proofs.YtjnfghhochcpaaaGreat
open Go.RowKit Go.Shelf Go.Maps

/-- both caches, as they lie. -/
structure Two6 (w0 W : World) (N rm c0 cb s b B x : Nat) (hi mi dr : Int) (ra : Option Addr) (rc : Nat) (L : List Lit) (T : Lit → Tv) (E : List En) : Prop where
  ca : Ca W N rm c0 cb s b hi mi L T
  rf : Rf W B x N rm hi mi dr ra rc E
  lit : E.map En.lit = L
  dr : dr = mi - (L.length : Nat)
  ne : ra = none ∨ E ≠ []
  be : Below w0.heap.size w0 W
  s0 : w0.heap.size ≤ s
  b0 : w0.heap.size ≤ b
  B0 : w0.heap.size ≤ B
section
variable {w0 W W' : World} {N rm c0 cb s b B x : Nat} {hi mi dr : Int} {ra : Option Addr} {rc : Nat} {L : List Lit} {T : Lit → Tv} {E : List En}
theorem Two6.len (h : Two6 w0 W N rm c0 cb s b B x hi mi dr ra rc L T E) : E.length = L.length := by rw [← h.lit, List.length_map]
theorem Two6.same (h : Two6 w0 W N rm c0 cb s b B x hi mi dr ra rc L T E) (hB : Below W.heap.size W W') : Two6 w0 W' N rm c0 cb s b B x hi mi dr ra rc L T E :=
  ⟨h.ca.same hB, h.rf.same hB, h.lit, h.dr, h.ne, h.be.trans (hB.mono h.be.size), h.s0, h.b0, h.B0⟩
theorem Two6.nd (h : Two6 w0 W N rm c0 cb s b B x hi mi dr ra rc L T E) : (E.map En.lit).Nodup := by rw [h.lit]; exact h.ca.sh.map.nodup
theorem Two6.bx (h : Two6 w0 W N rm c0 cb s b B x hi mi dr ra rc L T E) : B < W.heap.size := Nat.lt_of_le_of_lt h.rf.bx (Array.getElem?_eq_some_iff.1 h.rf.blk).1
theorem Two6.kb (h : Two6 w0 W N rm c0 cb s b B x hi mi dr ra rc L T E) : w0.heap.size ≤ rblk ra x := by
  rcases h.rf.own.2 with ⟨hv, _⟩ | ⟨g, cap, cur, hv, hg, _⟩
  · injection hv with e1; subst e1; exact Nat.le_trans h.B0 h.rf.bx
  · injection hv with e1; subst e1; exact Nat.le_trans h.B0 hg
theorem hi_of {w : World} {a : Option Addr} {n c : Nat} {h : Nat → Int} (s : Si w a n h) (h1 : n ≤ c) (h2 : c ≤ maxLen) (h3 : a = none → c = 0) : Hi w a n c h := by
  refine ⟨h1, h2, fun e => ⟨by have := h3 e; omega, h3 e⟩, fun ad e hn => ?_, fun ad e i hi => ?_⟩
  · obtain ⟨b, o, e2, _⟩ := s.cell 0 (by omega)
    rw [e] at e2; cases e2; rfl
  · obtain ⟨b, o, e2, hc⟩ := s.cell i hi
    rw [e] at e2; cases e2; exact hc
theorem Two6.asked2 {w1 : World} {dr' : Int} {ra' : Option Addr} {rc' : Nat} {T' : Lit → Tv} {E' : List En} {key : Lit} (h : Two6 w0 W N rm c0 cb s b B x hi mi dr ra rc L T E)
    (hC : Ca w1 N rm c0 cb s b (askH L key hi) (askM L key mi) (askL rm L key) T') (hB : But s b W w1) (hBW : But x (rblk ra x) w1 W')
    (hRf : Rf W' B x N rm (askH L key hi) (askM L key mi) dr' ra' rc' E') (hmap : E'.map En.lit = askL rm L key) (hdr : dr' = askM L key mi - (E'.length : Nat)) (hne : E' ≠ []) (hbe : Below w0.heap.size w0 W') :
    Two6 w0 W' N rm c0 cb s b B x (askH L key hi) (askM L key mi) dr' ra' rc' (askL rm L key) T' E' := by
  have hR1 := h.rf.but hB h.ca.sh
  exact ⟨hC.but6 hBW hR1.blk (hR1.kbs h.ne), hRf, hmap, by rw [hdr, ← hmap, List.length_map], Or.inr hne, hbe, h.s0, h.b0, h.B0⟩
end
theorem But.over {x kb g : Nat} {w1 w w' : World} (h : But x kb w1 w) (hg : w.grownBy w' (some g)) (hge : w1.heap.size ≤ g) : But x kb w1 w' :=
  ⟨hg.os.trans h.os, hg.tape.trans h.tape, hg.output.trans h.output, Nat.le_trans h.size hg.size, fun i h1 h2 h3 => (hg.block i (Nat.lt_of_lt_of_le h1 h.size) (fun e => by cases e; omega)).trans (h.block i h1 h2 h3)⟩
/-- how far the answer is written over. -/
structure OverR (w0 w1 w7 wz : World) (N rm B x kb xa I li K G j : Nat) (bI : Nat → Nat) (hi mi dr : Int) (ra : Option Addr) (rc : Nat) (E : List En) (qw qk ql : Int) (qf : Nat) (qa : Option Addr) (qc : Nat) (h : Nat → Int) : Prop where
  bw : But x kb w1 wz
  rf : Rf wz B x N rm hi mi dr ra rc E
  be : Below w0.heap.size w0 wz
  xb : Xb wz xa qw qk ql qf qa li qc
  bk : Block wz I (lentI h li 12) 3
  row : ∀ i, j ≤ i → i < K → wz.heap[bI i]? = w7.heap[bI i]?
  lst : wz.heap[G]? = w7.heap[G]?
theorem OverR.step {w0 w1 w7 wz w8 : World} {N rm B x kb xa I li K G j : Nat} {bI l c : Nat → Nat} {f : Nat → Nat → Nat} {hi mi dr : Int} {ra : Option Addr} {rc : Nat} {E : List En} {qw qk ql : Int} {qf : Nat} {qa : Option Addr} {qc : Nat} {h : Nat → Int} {us : Array Value} {cap : Nat}
    (r : OverR w0 w1 w7 wz N rm B x kb xa I li K G j bI hi mi dr ra rc E qw qk ql qf qa qc h) (hG : Gr w7 w1.heap.size G K cap bI l c f) (h01 : w0.heap.size ≤ w1.heap.size) (h7 : w7.heap.size ≤ wz.heap.size) (hj : j < K) (hg : wz.heap[bI j]? = some (.cells us 5 (0, 0))) (hgr : wz.grownBy w8 (some (bI j))) :
    OverR w0 w1 w7 w8 N rm B x kb xa I li K G (j + 1) bI hi mi dr ra rc E qw qk ql qf qa qc h :=
  ⟨r.bw.over hgr (hG.lo.2 j hj), r.rf.over hgr hg, r.be.grown hgr r.be.size (fun q e => by cases e; exact Nat.le_trans h01 (hG.lo.2 j hj)), (over_at hgr hg r.xb (by decide)).trans r.xb, (over_at hgr hg r.bk (by decide)).trans r.bk,
    fun i h1 h2 => (hgr.block _ (Nat.lt_of_lt_of_le (hG.ltb h2) h7) (fun e => by have := hG.inj _ _ h2 hj (Option.some.inj e); omega)).trans (r.row i (by omega) h2),
    (hgr.block _ (Nat.lt_of_lt_of_le hG.ltG h7) (fun e => hG.ne hj (Option.some.inj e).symm)).trans r.lst⟩
/-- the errors of Decode, where all symbols are as long. -/
theorem dchk_nf {h : Nat → Int} {p m N K : Nat} {E : Int} (d : DChk h (fun _ => p) m N K E) : Chk h m N K E := by
  rcases d with ⟨h1, _⟩ | ⟨_, h2⟩
  · exact absurd (fun _ _ => rfl) h1
  · exact h2
theorem dec_nf {h : Nat → Int} {p m N : Nat} {K E : Int} (d : (¬ (∀ i, i < m → (fun _ : Nat => p) i = (fun _ : Nat => p) 0) ∧ E = 2) ∨ ((∀ i, i < m → (fun _ : Nat => p) i = (fun _ : Nat => p) 0) ∧ ((¬ (1 ≤ K ∧ K ≤ N) ∧ E = 2) ∨ (1 ≤ K ∧ K ≤ N ∧ Chk h m N K.toNat E)))) :
    (¬ (1 ≤ K ∧ K ≤ N) ∧ E = 2) ∨ (1 ≤ K ∧ K ≤ N ∧ Chk h m N K.toNat E) := by
  rcases d with ⟨h1, _⟩ | ⟨_, h2⟩
  · exact absurd (fun _ _ => rfl) h1
  · exact h2
theorem asked_sum (L : List Lit) (key : Lit) (hi mi : Int) : askH L key hi + askM L key mi = hi + mi + 1 := by
  unfold askH askM; split <;> omega
theorem si_lent {w : World} {I li : Nat} {h : Nat → Int} (hb : Block w I (lentI h li 12) 3) : Si w (some ⟨I, 0, none⟩) li h := ⟨fun i hi => ⟨I, 0, rfl, by rw [Nat.zero_add]; exact hb.cell (lentI_lo hi)⟩⟩
theorem Block.butS {s b room : Nat} {hi mi tp : Int} {L : List Lit} {T : Lit → Tv} {w w' : World} {g : Nat} {vs : List Value} (h : Block w g vs 3) (hB : But s b w w') (S : Sh w s b room hi mi tp L T) : Block w' g vs 3 := (hB.at_ S h (by decide)).trans h
theorem Block.but6 {x kb : Nat} {N room hi mi dr : Int} {a : Option Addr} {n c : Nat} {w w' : World} {g : Nat} {vs : List Value} (h : Block w g vs 3) (hB : But x kb w w') (hx : Rb6 w x N room a n c hi mi dr) (hk : Kb w x kb) : Block w' g vs 3 := (hB.at6 hx hk h (by decide) (by decide)).trans h
theorem Xb.but6 {x kb : Nat} {N room hi mi dr : Int} {a : Option Addr} {n c : Nat} {w w' : World} {g : Nat} {wh kq lg : Int} {fs : Nat} {ia : Option Addr} {il ic : Nat} (h : Xb w g wh kq lg fs ia il ic) (hB : But x kb w w') (hx : Rb6 w x N room a n c hi mi dr) (hk : Kb w x kb) : Xb w' g wh kq lg fs ia il ic := (hB.at6 hx hk h (by decide) (by decide)).trans h
/-- what each arm leaves. -/
def Mid6 (w0 W : World) (N rm c0 cb s b B x k xa I li : Nat) (qw qk ql : Int) (qf : Nat) (qa : Option Addr) (qc : Nat) (h : Nat → Int) : Prop :=
  ∃ (hi mi dr : Int) (ra : Option Addr) (rc : Nat) (L : List Lit) (T : Lit → Tv) (E : List En), Two6 w0 W N rm c0 cb s b B x hi mi dr ra rc L T E ∧ hi + mi ≤ (k : Int) + 1 ∧ Xb W xa qw qk ql qf qa li qc ∧ Block W I (lentI h li 12) 3
/-- how far the loop is. -/
def AskRel6 (w0 wr : World) (N rm c0 cb s b B x m k : Nat) (vi : Value) : Prop :=
  ∃ (hi mi dr : Int) (ra : Option Addr) (rc : Nat) (L : List Lit) (T : Lit → Tv) (E : List En), k ≤ m ∧ vi = .int .i64 (k : Nat) ∧ Two6 w0 wr N rm c0 cb s b B x hi mi dr ra rc L T E ∧ hi + mi ≤ k
set_option maxHeartbeats 8000000 in
set_option maxRecDepth 100000 in
theorem cacheAsks_any (n room : Int) (a : Option Addr) (m cap : Nat) (wh kq lg : Nat → Int) (fs : Nat → Nat) (ia : Nat → Option Addr) (il ic : Nat → Nat) (hI : Nat → Nat → Int) (hm : m ≤ 1000000000000000) (w : World) (hA : As w a m wh kq lg fs ia il ic hI) :
    Calls Tryz.prog 4 #[.int .i64 n, .int .i64 room, .slice a m cap] w fun e w' => e = .returned (.bool true) ∧ Below w.heap.size w w' := by
  have HA := Lib.hid hA; clear hA
  go_enter Tryz.func4, Tryz.ntmps4
  go_wp2_with fail
  refine (great6_any n a m cap wh kq lg fs ia il ic hI hm _ HA.out).mono ?_
  rintro e w1 ⟨v, rfl, hv, hB1⟩
  have HB1 := Lib.hid hB1; clear hB1
  cases v
  rotate_left
  · clear hv
    go_wp2_with fail
    refine (awake6_any _).mono ?_
    rintro e w2 ⟨rfl, hB2⟩
    have HB2 := Lib.hid (HB1.out.trans (hB2.mono HB1.out.size)); clear hB2
    go_wp2
    go_ret
    exact ⟨rfl, HB2.out⟩
  obtain ⟨hN12, hm3, hil3⟩ := hv rfl
  have HIL := Lib.hid hil3
  clear hv hil3
  by_cases hok : 1 ≤ n ∧ n ≤ 255 ∧ 1 ≤ room ∧ room ≤ 64
  rotate_left
  · have HOK := Lib.hid hok; clear hok
    go_wp2_with fail
    refine (canew_no n room HOK.out _).mono ?_
    rintro e w2 ⟨rfl, hw2⟩
    rw [hw2]; clear hw2
    go_wp2_with fail
    refine (rnew6_no n room HOK.out _).mono ?_
    rintro e w2 ⟨rfl, hw2⟩
    rw [hw2]; clear hw2
    go_wp2_with fail
    refine (awake6_any _).mono ?_
    rintro e w2 ⟨rfl, hB2⟩
    have HB2 := Lib.hid (HB1.out.trans (hB2.mono HB1.out.size)); clear hB2
    go_wp2
    go_ret
    exact ⟨rfl, HB2.out⟩
  obtain ⟨N, rfl⟩ : ∃ N : Nat, n = (N : Nat) := ⟨n.toNat, by omega⟩
  obtain ⟨rm, rfl⟩ : ∃ rm : Nat, room = (rm : Nat) := ⟨room.toNat, by omega⟩
  have hN1 : 1 ≤ N := by omega
  have hN2 : N ≤ 255 := by omega
  have hr1 : 1 ≤ rm := by omega
  have hr2 : rm ≤ 64 := by omega
  clear hok
  go_wp2_with fail
  refine (canew_yes N rm hN1 hN2 hr1 hr2 _).mono ?_
  rintro e w2 ⟨c0, cb, s, b, rfl, hC2, hc0, hs, hb, hB2⟩
  have HC2 := Lib.hid hC2; have HB2 := Lib.hid (HB1.out.trans (hB2.mono HB1.out.size))
  have hs1 := Nat.le_trans HB1.out.size hs.1
  have hb1 := Nat.le_trans HB1.out.size hb.1
  clear hC2 hc0 hs hb hB2
  go_wp2_with fail
  refine (rnew6_yes N rm hN1 hN2 hr1 hr2 _).mono ?_
  rintro e w3 ⟨x, rfl, hR3, hB3⟩
  have HT3 := Lib.hid (show Two6 w w3 N rm c0 cb s b w2.heap.size x 0 0 0 none 0 [] _ [] from ⟨HC2.out.same hB3, hR3, rfl, by simp, Or.inl rfl, HB2.out.trans (hB3.mono HB2.out.size), hs1, hb1, HB2.out.size⟩)
  clear hR3 hB3 HC2
  obtain ⟨B, hBe⟩ : ∃ B, B = w2.heap.size := ⟨_, rfl⟩
  rw [← hBe] at HT3
  clear hBe HB2 HB1 hs1 hb1
  go_wp2_with fail
  go_loopw [11] (fun vi wr => ∃ k, AskRel6 w wr N rm c0 cb s b B x m k vi) (fun i _ => m - (intOf i).toNat)
  case atStart => exact ⟨0, 0, 0, 0, none, 0, [], _, [], by omega, rfl, HT3.out, by omega⟩
  case round =>
    rename_i wr
    clear HT3
    obtain ⟨k, hi, mi, dr, ra, rc, L, T, E, hk, rfl, hTw, hbd⟩ := hrel
    have HT := Lib.hid hTw
    have hi0 := hTw.ca.cnt.1
    have mi0 : 0 ≤ mi := by have := hTw.ca.cnt.2; omega
    have hszr := hTw.be.size
    by_cases hkm : k < m
    rotate_left
    · obtain rfl : k = m := by omega
      clear hTw
      go_wp2_with fail
      refine (awake6_any _).mono ?_
      rintro e w4 ⟨rfl, hB4⟩
      have HB4 := Lib.hid (HT.out.be.trans (hB4.mono hszr)); clear hB4
      go_wp2
      go_ret
      exact ⟨rfl, HB4.out⟩
    have i1 : (k : Int) < (m : Int) := by omega
    obtain ⟨xb, xo, ea, c0', c1', c2', c3', c4'⟩ := (HA.out.same hTw.be).cell k hkm
    have EA := Lib.hid (show a = some ⟨xb, xo, none⟩ from ea)
    have hsi := HA.out.ind k hkm
    have hnil := HA.out.nil k hkm
    obtain ⟨o1, o2, _, o4⟩ := HA.out.ok k hkm
    have o3 := HIL.out k hkm
    subst ea
    generalize wh k = qw at c0'
    generalize kq k = qk at c1'
    generalize lg k = ql at c2'
    generalize fs k = qf at c3' o4
    generalize ia k = qa at c4' hsi hnil
    generalize il k = li at c4' hsi o1 o3
    generalize ic k = qc at c4' o1 o2 hnil
    generalize hI k = h at hsi
    have HSI := Lib.hid hsi
    obtain ⟨wx, hwx⟩ : ∃ wx, wx = wr.alloc (.cells #[.int .i64 qw, .int .i64 qk, .int .i64 ql, .int .u8 (qf : Nat), .slice qa li qc] 41) := ⟨_, rfl⟩
    have hbx : Below wr.heap.size wr wx := by rw [hwx]; exact (Below.refl _ wr).alloc (Nat.le_refl _) _
    have HXX := Lib.hid (show Xb wx wr.heap.size qw qk ql qf qa li qc from by rw [hwx]; exact heap_alloc_new _ _)
    have HTX := Lib.hid (hTw.same hbx); have HWX := Lib.hid hwx
    have HHI := Lib.hid (hi_of hsi o1 o2 hnil)
    have hpb := pkv_bd qw (n := 3) (by omega)
    have hp6 := pkv_bd ql (n := 6) (by omega)
    obtain ⟨p6, hp6e⟩ : ∃ p6 : Nat, pkv ql 6 = (p6 : Nat) := ⟨(pkv ql 6).toNat, by omega⟩
    have hp6l : p6 < 6 := by omega
    have HP6 := Lib.hid hp6e
    have HPK := Lib.hid (pickv_any qw 3 (by omega) (by omega))
    generalize hpv : pkv qw 3 = pv at HPK hpb
    clear hpv hTw hsi hwx hbx hp6 hp6e hnil
    go_wp2_with fail
    rw [← HWX.out]
    clear c0' c1' c2' c3' c4'
    have x4 := HXX.out.c4
    go_wp2_with fail
    refine (lentInts_any qa li qc h _ (HHI.out.same HTX.out.be) (by omega)).mono ?_
    rintro e wi ⟨rfl, hbk, hBi⟩
    have HTI := Lib.hid (HTX.out.same hBi); have HXI := Lib.hid (HXX.out.same hBi); have HBK := Lib.hid hbk
    obtain ⟨I, hII⟩ : ∃ I, I = wx.heap.size := ⟨_, rfl⟩
    rw [← hII] at HBK ⊢
    obtain ⟨xa, hxa⟩ : ∃ xa, xa = wr.heap.size := ⟨_, rfl⟩
    rw [← hxa] at HXI ⊢
    clear hbk hBi x4 HXX HTX HT HWX hszr hII hxa
    have hwi := HTI.out.be.size
    have x0 := HXI.out.c0
    go_wp2_with fail
    refine (HPK.out _).mono ?_
    rintro e w' ⟨rfl, hw'⟩
    rw [hw']; clear hw' x0 HPK
    go_upto_block 2 with fail
    go_cut [72] (fun _ wx => Mid6 w wx N rm c0 cb s b B x k xa I li qw qk ql qf qa qc h)
    case first =>
      rcases (show pv = 0 ∨ pv = 1 ∨ pv = 2 by omega) with rfl | rfl | rfl
      · have x1 := HXI.out.c1
        go_wp2_with fail
        refine (caturn_apart N rm c0 cb s b hi mi L T qk (some ⟨I, 0, none⟩) li (li + 12) h (by omega) (by omega) (by unfold maxLen; omega) (by omega) _ HTI.out.ca (si_lent HBK.out)).mono ?_
        clear x1
        rintro e w5 (⟨Er, hEr, rfl, hck, hB5⟩ | ⟨hK1, hK2, hck, G, bI, cI, T', w5a, rfl, hG, hC1, hBut, hB15⟩)
        · have HT5 := Lib.hid (HTI.out.same hB5); have HX5 := Lib.hid (HXI.out.same hB5); have HBK5 := Lib.hid (HBK.out.same hB5)
          have HCK := Lib.hid hck; have HER := Lib.hid hEr
          clear hck hEr hB5 HTI HXI HBK
          have x1 := HX5.out.c1
          have x4 := HX5.out.c4
          have HRT := Lib.hid (rcturn_any B x N rm hi mi dr ra rc E qk qa li qc h (by omega) o1 o2 HT5.out.nd ⟨hi0, by omega⟩ ⟨mi0, by omega⟩ (by have h1 := HT5.out.dr; have h2 := HT5.out.ca.cnt; omega) HT5.out.ne w5 (Nat.le_of_lt HT5.out.bx) HT5.out.rf (HSI.out.same HT5.out.be))
          go_wp2_with fail
          refine HRT.out.mono ?_
          clear x1 x4 HRT
          rintro e w6 (⟨Er', hEr', rfl, hck', hB6⟩ | ⟨hK1, hK2, hck', _⟩)
          rotate_left
          · exfalso
            rcases HCK.out with ⟨h1, _⟩ | ⟨_, _, h2⟩
            · exact h1 ⟨hK1, hK2⟩
            · exact HER.out (h2.uniq hck')
          obtain rfl : Er = Er' := by
            rcases HCK.out with ⟨h1, e1⟩ | ⟨h1, h2, h3⟩
            · rcases hck' with ⟨_, e2⟩ | ⟨g1, g2, _⟩
              · rw [e1, e2]
              · exact absurd ⟨g1, g2⟩ h1
            · rcases hck' with ⟨g1, _⟩ | ⟨_, _, g3⟩
              · exact absurd ⟨h1, h2⟩ g1
              · exact h3.uniq g3
          have HT6 := Lib.hid (HT5.out.same hB6); have HX6 := Lib.hid (HX5.out.same hB6); have HBK6 := Lib.hid (HBK5.out.same hB6)
          clear hck' hEr' hB6 HT5 HX5 HBK5 HCK HER
          have g1 : (Er != Er) = false := by simp
          go_wp2_with fail
          refine (sameRows_any none none 0 0 0 _ _ _ _ _ _ _ _ (by omega) (fun i hh => absurd hh (Nat.not_lt_zero i)) _ (rd_no _) (rd_no _) (fun i hh => absurd hh (Nat.not_lt_zero i))).mono ?_
          rintro e w7 ⟨rfl, hq7⟩
          have hB7 := drewb6 hq7
          have HT7 := Lib.hid (HT6.out.same hB7); have HX7 := Lib.hid (HX6.out.same hB7); have HBK7 := Lib.hid (HBK6.out.same hB7)
          clear hq7 hB7 g1 HT6 HX6 HBK6
          go_wp2_with fail
          go_loopw [18] (fun v wz => v = .int .i64 0 ∧ wz = w7) (fun _ _ => 0)
          case atStart => exact ⟨rfl, rfl⟩
          case round =>
            obtain ⟨rfl, hwz⟩ := hrel
            subst hwz
            go_wp2_with fail
            go_meet
            exact ⟨hi, mi, dr, ra, rc, L, T, E, HT7.out, by omega, HX7.out, HBK7.out⟩
        · obtain ⟨K, rfl⟩ : ∃ K : Nat, qk = (K : Nat) := ⟨qk.toNat, by omega⟩
          rw [Int.toNat_natCast] at hck hG hC1
          have HG5 := Lib.hid hG; have HC1 := Lib.hid hC1; have HBT := Lib.hid hBut; have HB15 := Lib.hid hB15
          have HK0 := Lib.hid hck
          have hK3 : K ≤ N := by omega
          have HRa := Lib.hid (HTI.out.rf.but hBut HTI.out.ca.sh)
          have HR5 := Lib.hid (HRa.out.same hB15)
          have HX5 := Lib.hid ((HXI.out.but hBut HTI.out.ca.sh).same hB15); have HBK5 := Lib.hid ((Block.butS HBK.out hBut HTI.out.ca.sh).same hB15)
          have HBEa := Lib.hid (HTI.out.be.trans (hBut.below hwi HTI.out.s0 HTI.out.b0))
          have HBE5 := Lib.hid (HBEa.out.trans (hB15.mono HBEa.out.size))
          have HKB := Lib.hid (HR5.out.kbs HTI.out.ne)
          clear hck hG hC1 hBut hB15
          have x1 := HX5.out.c1
          have x4 := HX5.out.c4
          have HRT := Lib.hid (rcturn_any B x N rm hi mi dr ra rc E K qa li qc h (by omega) o1 o2 HTI.out.nd ⟨hi0, by omega⟩ ⟨mi0, by omega⟩ (by have h1 := HTI.out.dr; have h2 := HTI.out.ca.cnt; omega) HTI.out.ne w5 (by have h1 := HR5.out.bx; have h2 := (Array.getElem?_eq_some_iff.1 HR5.out.blk).1; omega) HR5.out (HSI.out.same HBE5.out))
          go_wp2_with fail
          refine HRT.out.mono ?_
          clear x1 x4 HRT
          rintro e w6 (⟨Er', hEr', rfl, hck', hB6⟩ | ⟨_, _, _, G2, sc, b2, c2, rfl, hG2, hAsk⟩)
          · exfalso
            rcases hck' with ⟨h1, _⟩ | ⟨_, _, h2⟩
            · exact h1 ⟨hK1, hK2⟩
            · rw [Int.toNat_natCast] at h2
              exact hEr' (h2.uniq HK0.out)
          rw [Int.toNat_natCast] at hG2 hAsk ⊢
          obtain ⟨ra', rc', dr', E', hRf, hmap, hdr, hne, hBx⟩ := hAsk
          rw [HTI.out.lit] at hRf hmap hdr
          have HDR := Lib.hid (hdr (by rw [HTI.out.dr, HTI.out.len]))
          have HMAP := Lib.hid hmap; have HNE := Lib.hid hne
          have HG6 := Lib.hid (HG5.out.but6 hBx HR5.out.blk HKB.out); have HX6 := Lib.hid (HX5.out.but6 hBx HR5.out.blk HKB.out); have HBK6 := Lib.hid (Block.but6 HBK5.out hBx HR5.out.blk HKB.out)
          have HRF6 := Lib.hid hRf; have HG26 := Lib.hid hG2
          have HBW6 := Lib.hid ((But.of (s := x) (b := rblk ra x) HB15.out).trans hBx)
          have HBE6 := Lib.hid (HBE5.out.trans (hBx.below HBE5.out.size (Nat.le_trans HTI.out.B0 HTI.out.rf.bx) HTI.out.kb))
          clear hRf hmap hdr hne hBx hG2 HG5 HX5 HBK5 HR5 HKB HBE5
          go_wp2_with fail
          refine (sameRows_any (some ⟨G, 0, none⟩) (some ⟨G2, 0, none⟩) K K sc _ _ _ _ _ _ _ _ (by omega) (fun i hh => by show K ≤ _; omega) _ HG6.out.rd HG26.out.rd (fun i hh => ⟨rfl, rfl⟩)).mono ?_
          rintro e w7 ⟨rfl, hq7⟩
          have hB7 := drewb6 hq7
          have HG7 := Lib.hid (HG6.out.same hB7)
          have HO7 := Lib.hid (show OverR w w5a w7 w7 N rm B x (rblk ra x) xa I li K G 0 bI (askH L (kk K h) hi) (askM L (kk K h) mi) dr' ra' rc' E' qw K ql qf qa qc h from
            ⟨HBW6.out.trans (But.of hB7), HRF6.out.same hB7, HBE6.out.trans (hB7.mono HBE6.out.size), HX6.out.same hB7, HBK6.out.same hB7, fun _ _ _ => rfl, rfl⟩)
          clear hq7 hB7 HG6 HX6 HBK6 HRF6 HG26 HBW6 HBE6
          have hza := HBEa.out.size
          go_wp2_with fail
          go_loopw [18] (fun v wz => ∃ j : Nat, j ≤ K ∧ v = .int .i64 (j : Nat) ∧ w7.heap.size ≤ wz.heap.size ∧ OverR w w5a w7 wz N rm B x (rblk ra x) xa I li K G j bI (askH L (kk K h) hi) (askM L (kk K h) mi) dr' ra' rc' E' qw K ql qf qa qc h) (fun v _ => K - (intOf v).toNat)
          case atStart => exact ⟨0, by omega, rfl, Nat.le_refl _, HO7.out⟩
          case round =>
            obtain ⟨wz, rfl⟩ : ∃ wz : World, wz = wr := ⟨_, rfl⟩
            obtain ⟨j, hj, rfl, h7z, hO⟩ := hrel
            have HO := Lib.hid hO; clear hO HO7
            by_cases hjK : j < K
            · have i2 : (j : Int) < (K : Int) := by omega
              have hcl : wz.cell? ⟨G, j, none⟩ = some (.slice (some ⟨bI j, 0, none⟩) K (cI j)) := (World.cell?_of_block (a := ⟨G, j, none⟩) HO.out.lst).trans (HG7.out.cell hjK)
              obtain ⟨us, hu1, hu2, _⟩ := HG7.out.row j hjK
              have hu3 := (HO.out.row j (Nat.le_refl _) hjK).trans hu1
              have HU3 := Lib.hid hu3
              obtain ⟨lc1, lc2⟩ := HG7.out.lc j hjK
              clear hu1 hu3
              go_wp2_with fail
              refine (over_any (bI j) K (cI j) us (by omega) lc1 lc2 _ HU3.out hu2).mono ?_
              rintro e w8 ⟨rfl, hgr⟩
              have HO8 := Lib.hid (HO.out.step HG7.out hza h7z hjK HU3.out hgr)
              have h8 := Nat.le_trans h7z hgr.size
              clear hgr hcl
              go_wp2_with fail
              go_roundw
              case rel =>
                first
                | exact ⟨j + 1, by omega, by go_num, h8, HO8.out⟩
                | (repeat apply Exists.intro
                   exact ⟨⟨j + 1, by omega, by go_num, h8, HO8.out⟩, rfl⟩)
              case measure => simp [intOf]; omega
            · obtain rfl : j = K := by omega
              go_wp2_with fail
              go_meet
              exact ⟨_, _, _, _, _, _, _, _, HTI.out.asked2 HC1.out HBT.out HO.out.bw HO.out.rf HMAP.out HDR.out HNE.out HO.out.be, by rw [asked_sum]; omega, HO.out.xb, HO.out.bk⟩
      · have HXS := Lib.hid (fun (W : World) (hW : W.heap[xa]? = wi.heap[xa]?) => (show Xb W xa qw qk ql qf qa li qc from hW.trans HXI.out))
        go_wp2_with fail
        refine wp_region_held_drew (S := fun W => W.heap[xa]? = wi.heap[xa]?) (by kernel_rfl) (rfl) (fun hHeld => ?_)
        refine wpAnyH_take (i := 0) (oi := ⟨some 114, _, _, _, _, none⟩) (v := (.pointer (some ⟨c0, 0, none⟩))) rfl (by kernel_rfl) (by kernel_rfl) (by kernel_rfl) (fun _ _ _ h => h) (Or.inl ⟨by rfl, fun W hW => ?_⟩) (by assumption) ?_
        · go_simp
        simp only [Act.put, List.setIfInBounds_toArray, List.set_cons_zero, List.set_cons_succ]
        refine wpAnyH_take (i := 1) (oi := ⟨some 115, _, _, _, _, none⟩) (v := (.pointer (some ⟨xa, 1, none⟩))) rfl (by kernel_rfl) (by kernel_rfl) (by kernel_rfl) (fun _ _ _ h => h) (Or.inl ⟨by rfl, fun W hW => ?_⟩) (by assumption) ?_
        · go_simp
        simp only [Act.put, List.setIfInBounds_toArray, List.set_cons_zero, List.set_cons_succ]
        refine wpAnyH_take (i := 2) (oi := ⟨some 116, _, _, _, _, none⟩) (v := (.int .i64 qk)) rfl (by kernel_rfl) (by kernel_rfl) (by kernel_rfl) (fun _ _ _ h => h) (Or.inl ⟨by rfl, fun W hW => ?_⟩) (by assumption) ?_
        · have := (HXS.out W hW).c1; go_simp
        simp only [Act.put, List.setIfInBounds_toArray, List.set_cons_zero, List.set_cons_succ]
        refine wpAnyH_take (i := 3) (oi := ⟨some 117, _, _, _, _, none⟩) (v := (.agg #[.int .i64 qw, .int .i64 qk, .int .i64 ql, .int .u8 (qf : Nat), .slice qa li qc])) rfl (by kernel_rfl) (by kernel_rfl) (by kernel_rfl) (fun _ _ _ h => h) (Or.inl ⟨by rfl, fun W hW => ?_⟩) (by assumption) ?_
        · have e0 := (HXS.out W hW).c0; have e1 := (HXS.out W hW).c1; have e2 := (HXS.out W hW).c2; have e3 := (HXS.out W hW).c3; have e4 := (HXS.out W hW).c4; go_simp
        simp only [Act.put, List.setIfInBounds_toArray, List.set_cons_zero, List.set_cons_succ]
        refine wpAnyH_ready (rs := [4]) (by kernel_rfl) (by simp) (AllReadyH.cons rfl (fun KK hKK => ?_) AllReadyH.nil)
        go_simp
        refine (held6_any qw qk ql qf qa li qc h p6 HP6.out hp6l o4 o3 _ (show Si wi.drew qa li h from HSI.out.same (below_dr HTI.out.be 1))).mono ?_
        rintro e w4 ⟨ha4, hc4, r4, cc4, rfl, hH4, hB4'⟩
        dsimp only
        have hB4 : Below wi.heap.size wi w4 := (below_dr (Below.refl _ wi) 1).trans hB4'
        refine hKK.out _ _ (hB4.block _ (Array.getElem?_eq_some_iff.1 HXI.out).1) (fun hHeld => ?_)
        clear hKK KK
        try simp only [Act.put, List.setIfInBounds_toArray, List.set_cons_zero, List.set_cons_succ]
        have HT4 := Lib.hid (HTI.out.same hB4); have HX4 := Lib.hid (HXI.out.same hB4); have HBK4 := Lib.hid (HBK.out.same hB4); have HH4 := Lib.hid hH4
        have HEQ4 := Lib.hid (hB4.block _ (Array.getElem?_eq_some_iff.1 HXI.out).1)
        clear hB4 hB4' hH4
        refine wpAnyH_ready (rs := [5]) (by kernel_rfl) (by simp) (AllReadyH.cons rfl (fun KK hKK => ?_) AllReadyH.nil)
        go_simp
        refine (cadecode_any N rm c0 cb s b hi mi L T qk ha4 li hc4 h r4 (fun _ => p6) cc4 (hbf qf p6) (by omega) (fun _ _ => by omega) (by omega) _ HT4.out.ca HH4.out).mono ?_
        rintro e w5 (⟨Er, hEr, rfl, hck, hB5⟩ | ⟨_, hK1, hK2, hck, G, bI, T', rfl, hG, hC1, hBut⟩)
        · dsimp only
          refine hKK.out _ _ ((hB5.block _ (Array.getElem?_eq_some_iff.1 HX4.out).1).trans HEQ4.out) (fun hHeld => ?_)
          clear hKK KK
          try simp only [Act.put, List.setIfInBounds_toArray, List.set_cons_zero, List.set_cons_succ]
          have HT5 := Lib.hid (HT4.out.same hB5); have HX5 := Lib.hid (HX4.out.same hB5); have HBK5 := Lib.hid (HBK4.out.same hB5)
          have HCK := Lib.hid (dec_nf hck); have HER := Lib.hid hEr
          clear hck hEr hB5
          refine wpAnyH_take (i := 6) (oi := ⟨some 113, _, _, _, _, none⟩) (v := (.tuple #[.slice none 0 0, .int .i64 Er])) rfl (by kernel_rfl) (by kernel_rfl) (by kernel_rfl) (fun _ _ _ h => h) (Or.inl ⟨by rfl, fun W hW => ?_⟩) (by assumption) ?_
          · go_simp
          simp only [Act.put, List.setIfInBounds_toArray, List.set_cons_zero, List.set_cons_succ]
          refine wpAnyH_take (i := 7) (oi := ⟨some 120, _, _, _, _, none⟩) (v := (.slice none 0 0)) rfl (by kernel_rfl) (by kernel_rfl) (by kernel_rfl) (fun _ _ _ h => h) (Or.inl ⟨by rfl, fun W hW => ?_⟩) (by assumption) ?_
          · go_simp
          simp only [Act.put, List.setIfInBounds_toArray, List.set_cons_zero, List.set_cons_succ]
          refine wpAnyH_take (i := 8) (oi := ⟨some 121, _, _, _, _, none⟩) (v := (.int .i64 Er)) rfl (by kernel_rfl) (by kernel_rfl) (by kernel_rfl) (fun _ _ _ h => h) (Or.inl ⟨by rfl, fun W hW => ?_⟩) (by assumption) ?_
          · go_simp
          simp only [Act.put, List.setIfInBounds_toArray, List.set_cons_zero, List.set_cons_succ]
          refine wpAnyH_take (i := 9) (oi := ⟨some 19, _, _, _, _, none⟩) (v := (.slice none 0 0)) rfl (by kernel_rfl) (by kernel_rfl) (by kernel_rfl) (fun _ _ _ h => h) (Or.inl ⟨by rfl, fun W hW => ?_⟩) (by assumption) ?_
          · go_simp
          simp only [Act.put, List.setIfInBounds_toArray, List.set_cons_zero, List.set_cons_succ]
          refine wpAnyH_take (i := 10) (oi := ⟨some 20, _, _, _, _, none⟩) (v := (.int .i64 Er)) rfl (by kernel_rfl) (by kernel_rfl) (by kernel_rfl) (fun _ _ _ h => h) (Or.inl ⟨by rfl, fun W hW => ?_⟩) (by assumption) ?_
          · go_simp
          simp only [Act.put, List.setIfInBounds_toArray, List.set_cons_zero, List.set_cons_succ]
          refine wpAnyH_done (by kernel_rfl) ?_ _
          clear hHeld HEQ4 HT4 HX4 HBK4 HH4 HXS HTI HXI HBK
          have HXS := Lib.hid (fun (W : World) (hW : W.heap[xa]? = w5.heap[xa]?) => (show Xb W xa qw qk ql qf qa li qc from hW.trans HX5.out))
          go_wp2_with fail
          refine wp_region_held_drew (S := fun W => W.heap[xa]? = w5.heap[xa]?) (by kernel_rfl) (rfl) (fun hHeld => ?_)
          refine wpAnyH_take (i := 0) (oi := ⟨some 123, _, _, _, _, none⟩) (v := (.pointer (some ⟨x, 0, none⟩))) rfl (by kernel_rfl) (by kernel_rfl) (by kernel_rfl) (fun _ _ _ h => h) (Or.inl ⟨by rfl, fun W hW => ?_⟩) (by assumption) ?_
          · go_simp
          simp only [Act.put, List.setIfInBounds_toArray, List.set_cons_zero, List.set_cons_succ]
          refine wpAnyH_take (i := 1) (oi := ⟨some 124, _, _, _, _, none⟩) (v := (.pointer (some ⟨xa, 1, none⟩))) rfl (by kernel_rfl) (by kernel_rfl) (by kernel_rfl) (fun _ _ _ h => h) (Or.inl ⟨by rfl, fun W hW => ?_⟩) (by assumption) ?_
          · go_simp
          simp only [Act.put, List.setIfInBounds_toArray, List.set_cons_zero, List.set_cons_succ]
          refine wpAnyH_take (i := 2) (oi := ⟨some 125, _, _, _, _, none⟩) (v := (.int .i64 qk)) rfl (by kernel_rfl) (by kernel_rfl) (by kernel_rfl) (fun _ _ _ h => h) (Or.inl ⟨by rfl, fun W hW => ?_⟩) (by assumption) ?_
          · have := (HXS.out W hW).c1; go_simp
          simp only [Act.put, List.setIfInBounds_toArray, List.set_cons_zero, List.set_cons_succ]
          refine wpAnyH_take (i := 3) (oi := ⟨some 126, _, _, _, _, none⟩) (v := (.agg #[.int .i64 qw, .int .i64 qk, .int .i64 ql, .int .u8 (qf : Nat), .slice qa li qc])) rfl (by kernel_rfl) (by kernel_rfl) (by kernel_rfl) (fun _ _ _ h => h) (Or.inl ⟨by rfl, fun W hW => ?_⟩) (by assumption) ?_
          · have e0 := (HXS.out W hW).c0; have e1 := (HXS.out W hW).c1; have e2 := (HXS.out W hW).c2; have e3 := (HXS.out W hW).c3; have e4 := (HXS.out W hW).c4; go_simp
          simp only [Act.put, List.setIfInBounds_toArray, List.set_cons_zero, List.set_cons_succ]
          refine wpAnyH_ready (rs := [4]) (by kernel_rfl) (by simp) (AllReadyH.cons rfl (fun KK hKK => ?_) AllReadyH.nil)
          go_simp
          refine (held6_any qw qk ql qf qa li qc h p6 HP6.out hp6l o4 o3 _ (show Si w5.drew qa li h from HSI.out.same (below_dr HT5.out.be 1))).mono ?_
          rintro e w6 ⟨ha6, hc6, r6, cc6, rfl, hH6, hB6'⟩
          dsimp only
          have hB6 : Below w5.heap.size w5 w6 := (below_dr (Below.refl _ w5) 1).trans hB6'
          refine hKK.out _ _ (hB6.block _ (Array.getElem?_eq_some_iff.1 HX5.out).1) (fun hHeld => ?_)
          clear hKK KK
          try simp only [Act.put, List.setIfInBounds_toArray, List.set_cons_zero, List.set_cons_succ]
          have HH6 := Lib.hid hH6; have HB6 := Lib.hid hB6; clear hB6 hB6' hH6
          refine wpAnyH_ready (rs := [5]) (by kernel_rfl) (by simp) (AllReadyH.cons rfl (fun KK hKK => ?_) AllReadyH.nil)
          go_simp
          refine (theirs6_any ha6 li hc6 h r6 (fun _ => p6) cc6 (hbf qf p6) (by omega) _ HH6.out).mono ?_
          rintro e w7 ⟨ta, tc, rfl, hH7, hB7⟩
          dsimp only
          have hB57 := HB6.out.trans (hB7.mono HB6.out.size)
          refine hKK.out _ _ (hB57.block _ (Array.getElem?_eq_some_iff.1 HX5.out).1) (fun hHeld => ?_)
          clear hKK KK
          try simp only [Act.put, List.setIfInBounds_toArray, List.set_cons_zero, List.set_cons_succ]
          have HH7 := Lib.hid hH7; have HB7 := Lib.hid hB57; clear hB7 hH7 hB57 HB6 HH6
          have HT7 := Lib.hid (HT5.out.same HB7.out); have HX7 := Lib.hid (HX5.out.same HB7.out); have HBK7 := Lib.hid (HBK5.out.same HB7.out)
          have HRD := Lib.hid (rcdec_any B x N rm hi mi dr ra rc E qk ta li tc h r6 (fun _ => p6) cc6 (hbf qf p6) (by omega) (fun _ _ => by omega) HT7.out.nd ⟨hi0, by omega⟩ ⟨mi0, by omega⟩ (by have h1 := HT7.out.dr; have h2 := HT7.out.ca.cnt; omega) HT7.out.ne w7 (Nat.le_of_lt HT7.out.bx) HT7.out.rf HH7.out)
          refine wpAnyH_ready (rs := [6]) (by kernel_rfl) (by simp) (AllReadyH.cons rfl (fun KK hKK => ?_) AllReadyH.nil)
          go_simp
          refine HRD.out.mono ?_
          rintro e w8 (⟨Er', hEr', rfl, hck', hB8⟩ | ⟨hK1, hK2, hck', _⟩)
          rotate_left
          · exfalso
            rcases HCK.out with ⟨h1, _⟩ | ⟨_, _, h2⟩
            · exact h1 ⟨hK1, hK2⟩
            · exact HER.out (h2.uniq (dchk_nf hck'))
          obtain rfl : Er = Er' := by
            rcases HCK.out with ⟨h1, e1⟩ | ⟨h1, h2, h3⟩
            · rcases hck' with ⟨_, e2⟩ | ⟨g1, g2, _⟩
              · rw [e1, e2]
              · exact absurd ⟨g1, g2⟩ h1
            · rcases hck' with ⟨g1, _⟩ | ⟨_, _, g3⟩
              · exact absurd ⟨h1, h2⟩ g1
              · exact h3.uniq (dchk_nf g3)
          dsimp only
          refine hKK.out _ _ ((hB8.block _ (Array.getElem?_eq_some_iff.1 HX7.out).1).trans (HB7.out.block _ (Array.getElem?_eq_some_iff.1 HX5.out).1)) (fun hHeld => ?_)
          clear hKK KK
          try simp only [Act.put, List.setIfInBounds_toArray, List.set_cons_zero, List.set_cons_succ]
          have HT8 := Lib.hid (HT7.out.same hB8); have HX8 := Lib.hid (HX7.out.same hB8); have HBK8 := Lib.hid (HBK7.out.same hB8)
          clear hck' hEr' hB8 HRD HCK HER
          refine wpAnyH_take (i := 7) (oi := ⟨some 122, _, _, _, _, none⟩) (v := (.tuple #[.slice none 0 0, .int .i64 Er])) rfl (by kernel_rfl) (by kernel_rfl) (by kernel_rfl) (fun _ _ _ h => h) (Or.inl ⟨by rfl, fun W hW => ?_⟩) (by assumption) ?_
          · go_simp
          simp only [Act.put, List.setIfInBounds_toArray, List.set_cons_zero, List.set_cons_succ]
          refine wpAnyH_take (i := 8) (oi := ⟨some 130, _, _, _, _, none⟩) (v := (.slice none 0 0)) rfl (by kernel_rfl) (by kernel_rfl) (by kernel_rfl) (fun _ _ _ h => h) (Or.inl ⟨by rfl, fun W hW => ?_⟩) (by assumption) ?_
          · go_simp
          simp only [Act.put, List.setIfInBounds_toArray, List.set_cons_zero, List.set_cons_succ]
          refine wpAnyH_take (i := 9) (oi := ⟨some 131, _, _, _, _, none⟩) (v := (.int .i64 Er)) rfl (by kernel_rfl) (by kernel_rfl) (by kernel_rfl) (fun _ _ _ h => h) (Or.inl ⟨by rfl, fun W hW => ?_⟩) (by assumption) ?_
          · go_simp
          simp only [Act.put, List.setIfInBounds_toArray, List.set_cons_zero, List.set_cons_succ]
          refine wpAnyH_take (i := 10) (oi := ⟨some 21, _, _, _, _, none⟩) (v := (.slice none 0 0)) rfl (by kernel_rfl) (by kernel_rfl) (by kernel_rfl) (fun _ _ _ h => h) (Or.inl ⟨by rfl, fun W hW => ?_⟩) (by assumption) ?_
          · go_simp
          simp only [Act.put, List.setIfInBounds_toArray, List.set_cons_zero, List.set_cons_succ]
          refine wpAnyH_take (i := 11) (oi := ⟨some 22, _, _, _, _, none⟩) (v := (.int .i64 Er)) rfl (by kernel_rfl) (by kernel_rfl) (by kernel_rfl) (fun _ _ _ h => h) (Or.inl ⟨by rfl, fun W hW => ?_⟩) (by assumption) ?_
          · go_simp
          simp only [Act.put, List.setIfInBounds_toArray, List.set_cons_zero, List.set_cons_succ]
          refine wpAnyH_done (by kernel_rfl) ?_ _
          clear hHeld HXS HT7 HX7 HBK7 HT5 HX5 HBK5 HB7 HH7
          have g1 : (Er != Er) = false := by simp
          go_wp2_with fail
          refine (sameRows_any none none 0 0 0 _ _ _ _ _ _ _ _ (by omega) (fun i hh => absurd hh (Nat.not_lt_zero i)) _ (rd_no _) (rd_no _) (fun i hh => absurd hh (Nat.not_lt_zero i))).mono ?_
          rintro e w9 ⟨rfl, hq9⟩
          have hB9 := drewb6 hq9
          have HT9 := Lib.hid (HT8.out.same hB9); have HX9 := Lib.hid (HX8.out.same hB9); have HBK9 := Lib.hid (HBK8.out.same hB9)
          clear hq9 hB9 g1
          go_wp2_with fail
          go_meet
          exact ⟨hi, mi, dr, ra, rc, L, T, E, HT9.out, by omega, HX9.out, HBK9.out⟩
        · obtain ⟨K, hKq⟩ : ∃ K : Nat, qk = (K : Nat) := ⟨qk.toNat, by omega⟩
          have hKt : qk.toNat = K := by omega
          rw [hKt] at hck hG hC1 ⊢
          have HKQ := Lib.hid hKt
          have HG5 := Lib.hid hG; have HC5 := Lib.hid hC1; have HBT := Lib.hid hBut; have HK0 := Lib.hid hck
          have hK3 : K ≤ N := by omega
          have HR5 := Lib.hid (HT4.out.rf.but hBut HT4.out.ca.sh); have HX5 := Lib.hid (HX4.out.but hBut HT4.out.ca.sh); have HBK5 := Lib.hid (Block.butS HBK4.out hBut HT4.out.ca.sh)
          have HBE5 := Lib.hid (HT4.out.be.trans (hBut.below HT4.out.be.size HT4.out.s0 HT4.out.b0))
          have HEQ5 := Lib.hid ((HX5.out.trans HX4.out.symm).trans HEQ4.out)
          clear hck hG hC1 hBut hKq hKt
          dsimp only
          refine hKK.out _ _ (HEQ5.out) (fun hHeld => ?_)
          clear hKK KK
          try simp only [Act.put, List.setIfInBounds_toArray, List.set_cons_zero, List.set_cons_succ]
          refine wpAnyH_take (i := 6) (oi := ⟨some 113, _, _, _, _, none⟩) (v := (.tuple #[.slice (some ⟨G, 0, none⟩) K K, .int .i64 0])) rfl (by kernel_rfl) (by kernel_rfl) (by kernel_rfl) (fun _ _ _ h => h) (Or.inl ⟨by rfl, fun W hW => ?_⟩) (by assumption) ?_
          · go_simp
          simp only [Act.put, List.setIfInBounds_toArray, List.set_cons_zero, List.set_cons_succ]
          refine wpAnyH_take (i := 7) (oi := ⟨some 120, _, _, _, _, none⟩) (v := (.slice (some ⟨G, 0, none⟩) K K)) rfl (by kernel_rfl) (by kernel_rfl) (by kernel_rfl) (fun _ _ _ h => h) (Or.inl ⟨by rfl, fun W hW => ?_⟩) (by assumption) ?_
          · go_simp
          simp only [Act.put, List.setIfInBounds_toArray, List.set_cons_zero, List.set_cons_succ]
          refine wpAnyH_take (i := 8) (oi := ⟨some 121, _, _, _, _, none⟩) (v := (.int .i64 0)) rfl (by kernel_rfl) (by kernel_rfl) (by kernel_rfl) (fun _ _ _ h => h) (Or.inl ⟨by rfl, fun W hW => ?_⟩) (by assumption) ?_
          · go_simp
          simp only [Act.put, List.setIfInBounds_toArray, List.set_cons_zero, List.set_cons_succ]
          refine wpAnyH_take (i := 9) (oi := ⟨some 19, _, _, _, _, none⟩) (v := (.slice (some ⟨G, 0, none⟩) K K)) rfl (by kernel_rfl) (by kernel_rfl) (by kernel_rfl) (fun _ _ _ h => h) (Or.inl ⟨by rfl, fun W hW => ?_⟩) (by assumption) ?_
          · go_simp
          simp only [Act.put, List.setIfInBounds_toArray, List.set_cons_zero, List.set_cons_succ]
          refine wpAnyH_take (i := 10) (oi := ⟨some 20, _, _, _, _, none⟩) (v := (.int .i64 0)) rfl (by kernel_rfl) (by kernel_rfl) (by kernel_rfl) (fun _ _ _ h => h) (Or.inl ⟨by rfl, fun W hW => ?_⟩) (by assumption) ?_
          · go_simp
          simp only [Act.put, List.setIfInBounds_toArray, List.set_cons_zero, List.set_cons_succ]
          refine wpAnyH_done (by kernel_rfl) ?_ _
          clear hHeld HEQ4 HEQ5 HX4 HBK4 HH4 HXS HTI HXI HBK
          have HXS := Lib.hid (fun (W : World) (hW : W.heap[xa]? = w5.heap[xa]?) => (show Xb W xa qw qk ql qf qa li qc from hW.trans HX5.out))
          go_wp2_with fail
          refine wp_region_held_drew (S := fun W => W.heap[xa]? = w5.heap[xa]?) (by kernel_rfl) (rfl) (fun hHeld => ?_)
          refine wpAnyH_take (i := 0) (oi := ⟨some 123, _, _, _, _, none⟩) (v := (.pointer (some ⟨x, 0, none⟩))) rfl (by kernel_rfl) (by kernel_rfl) (by kernel_rfl) (fun _ _ _ h => h) (Or.inl ⟨by rfl, fun W hW => ?_⟩) (by assumption) ?_
          · go_simp
          simp only [Act.put, List.setIfInBounds_toArray, List.set_cons_zero, List.set_cons_succ]
          refine wpAnyH_take (i := 1) (oi := ⟨some 124, _, _, _, _, none⟩) (v := (.pointer (some ⟨xa, 1, none⟩))) rfl (by kernel_rfl) (by kernel_rfl) (by kernel_rfl) (fun _ _ _ h => h) (Or.inl ⟨by rfl, fun W hW => ?_⟩) (by assumption) ?_
          · go_simp
          simp only [Act.put, List.setIfInBounds_toArray, List.set_cons_zero, List.set_cons_succ]
          refine wpAnyH_take (i := 2) (oi := ⟨some 125, _, _, _, _, none⟩) (v := (.int .i64 qk)) rfl (by kernel_rfl) (by kernel_rfl) (by kernel_rfl) (fun _ _ _ h => h) (Or.inl ⟨by rfl, fun W hW => ?_⟩) (by assumption) ?_
          · have := (HXS.out W hW).c1; go_simp
          simp only [Act.put, List.setIfInBounds_toArray, List.set_cons_zero, List.set_cons_succ]
          refine wpAnyH_take (i := 3) (oi := ⟨some 126, _, _, _, _, none⟩) (v := (.agg #[.int .i64 qw, .int .i64 qk, .int .i64 ql, .int .u8 (qf : Nat), .slice qa li qc])) rfl (by kernel_rfl) (by kernel_rfl) (by kernel_rfl) (fun _ _ _ h => h) (Or.inl ⟨by rfl, fun W hW => ?_⟩) (by assumption) ?_
          · have e0 := (HXS.out W hW).c0; have e1 := (HXS.out W hW).c1; have e2 := (HXS.out W hW).c2; have e3 := (HXS.out W hW).c3; have e4 := (HXS.out W hW).c4; go_simp
          simp only [Act.put, List.setIfInBounds_toArray, List.set_cons_zero, List.set_cons_succ]
          refine wpAnyH_ready (rs := [4]) (by kernel_rfl) (by simp) (AllReadyH.cons rfl (fun KK hKK => ?_) AllReadyH.nil)
          go_simp
          refine (held6_any qw qk ql qf qa li qc h p6 HP6.out hp6l o4 o3 _ (show Si w5.drew qa li h from HSI.out.same (below_dr HBE5.out 1))).mono ?_
          rintro e w6 ⟨ha6, hc6, r6, cc6, rfl, hH6, hB6'⟩
          dsimp only
          have hB6 : Below w5.heap.size w5 w6 := (below_dr (Below.refl _ w5) 1).trans hB6'
          refine hKK.out _ _ (hB6.block _ (Array.getElem?_eq_some_iff.1 HX5.out).1) (fun hHeld => ?_)
          clear hKK KK
          try simp only [Act.put, List.setIfInBounds_toArray, List.set_cons_zero, List.set_cons_succ]
          have HH6 := Lib.hid hH6; have HB6 := Lib.hid hB6; clear hB6 hB6' hH6
          refine wpAnyH_ready (rs := [5]) (by kernel_rfl) (by simp) (AllReadyH.cons rfl (fun KK hKK => ?_) AllReadyH.nil)
          go_simp
          refine (theirs6_any ha6 li hc6 h r6 (fun _ => p6) cc6 (hbf qf p6) (by omega) _ HH6.out).mono ?_
          rintro e w7 ⟨ta, tc, rfl, hH7, hB7⟩
          dsimp only
          have hB57 := HB6.out.trans (hB7.mono HB6.out.size)
          refine hKK.out _ _ (hB57.block _ (Array.getElem?_eq_some_iff.1 HX5.out).1) (fun hHeld => ?_)
          clear hKK KK
          try simp only [Act.put, List.setIfInBounds_toArray, List.set_cons_zero, List.set_cons_succ]
          have HH7 := Lib.hid hH7; have HB7 := Lib.hid hB57; clear hB7 hH7 hB57 HB6 HH6
          have HR7 := Lib.hid (HR5.out.same HB7.out); have HX7 := Lib.hid (HX5.out.same HB7.out); have HBK7 := Lib.hid (HBK5.out.same HB7.out); have HG7 := Lib.hid (HG5.out.same HB7.out); have HBE7 := Lib.hid (HBE5.out.trans (HB7.out.mono HBE5.out.size))
          have HKB := Lib.hid (HR7.out.kbs HT4.out.ne)
          have HRD := Lib.hid (rcdec_any B x N rm hi mi dr ra rc E qk ta li tc h r6 (fun _ => p6) cc6 (hbf qf p6) (by omega) (fun _ _ => by omega) HT4.out.nd ⟨hi0, by omega⟩ ⟨mi0, by omega⟩ (by have h1 := HT4.out.dr; have h2 := HT4.out.ca.cnt; omega) HT4.out.ne w7 (by have h1 := HR7.out.bx; have h2 := (Array.getElem?_eq_some_iff.1 HR7.out.blk).1; omega) HR7.out HH7.out)
          refine wpAnyH_ready (rs := [6]) (by kernel_rfl) (by simp) (AllReadyH.cons rfl (fun KK hKK => ?_) AllReadyH.nil)
          go_simp
          refine HRD.out.mono ?_
          rintro e w8 (⟨Er', hEr', rfl, hck', hB8⟩ | ⟨_, _, _, G2, sc, b2, c2, rfl, hG2, hAsk⟩)
          · exfalso
            rcases hck' with ⟨h1, _⟩ | ⟨_, _, h2⟩
            · exact h1 ⟨hK1, hK2⟩
            · rw [HKQ.out] at h2
              exact hEr' ((dchk_nf h2).uniq HK0.out)
          rw [HKQ.out] at hG2 hAsk ⊢
          obtain ⟨ra', rc', dr', E', hRf, hmap, hdr, hne, hBx⟩ := hAsk
          rw [HT4.out.lit] at hRf hmap hdr
          have HDR := Lib.hid (hdr (by rw [HT4.out.dr, HT4.out.len])); have HMAP := Lib.hid hmap; have HNE := Lib.hid hne
          have HG8 := Lib.hid (HG7.out.but6 hBx HR7.out.blk HKB.out); have HX8 := Lib.hid (HX7.out.but6 hBx HR7.out.blk HKB.out); have HBK8 := Lib.hid (Block.but6 HBK7.out hBx HR7.out.blk HKB.out)
          have HRF8 := Lib.hid hRf; have HG28 := Lib.hid hG2
          have HBW8 := Lib.hid ((But.of (s := x) (b := rblk ra x) HB7.out).trans hBx)
          have HBE8 := Lib.hid (HBE7.out.trans (hBx.below HBE7.out.size (Nat.le_trans HT4.out.B0 HT4.out.rf.bx) HT4.out.kb))
          dsimp only
          refine hKK.out _ _ (HX8.out.trans HX5.out.symm) (fun hHeld => ?_)
          clear hKK KK
          try simp only [Act.put, List.setIfInBounds_toArray, List.set_cons_zero, List.set_cons_succ]
          clear hRf hmap hdr hne hBx hG2 HRD
          refine wpAnyH_take (i := 7) (oi := ⟨some 122, _, _, _, _, none⟩) (v := (.tuple #[.slice (some ⟨G2, 0, none⟩) K sc, .int .i64 0])) rfl (by kernel_rfl) (by kernel_rfl) (by kernel_rfl) (fun _ _ _ h => h) (Or.inl ⟨by rfl, fun W hW => ?_⟩) (by assumption) ?_
          · go_simp
          simp only [Act.put, List.setIfInBounds_toArray, List.set_cons_zero, List.set_cons_succ]
          refine wpAnyH_take (i := 8) (oi := ⟨some 130, _, _, _, _, none⟩) (v := (.slice (some ⟨G2, 0, none⟩) K sc)) rfl (by kernel_rfl) (by kernel_rfl) (by kernel_rfl) (fun _ _ _ h => h) (Or.inl ⟨by rfl, fun W hW => ?_⟩) (by assumption) ?_
          · go_simp
          simp only [Act.put, List.setIfInBounds_toArray, List.set_cons_zero, List.set_cons_succ]
          refine wpAnyH_take (i := 9) (oi := ⟨some 131, _, _, _, _, none⟩) (v := (.int .i64 0)) rfl (by kernel_rfl) (by kernel_rfl) (by kernel_rfl) (fun _ _ _ h => h) (Or.inl ⟨by rfl, fun W hW => ?_⟩) (by assumption) ?_
          · go_simp
          simp only [Act.put, List.setIfInBounds_toArray, List.set_cons_zero, List.set_cons_succ]
          refine wpAnyH_take (i := 10) (oi := ⟨some 21, _, _, _, _, none⟩) (v := (.slice (some ⟨G2, 0, none⟩) K sc)) rfl (by kernel_rfl) (by kernel_rfl) (by kernel_rfl) (fun _ _ _ h => h) (Or.inl ⟨by rfl, fun W hW => ?_⟩) (by assumption) ?_
          · go_simp
          simp only [Act.put, List.setIfInBounds_toArray, List.set_cons_zero, List.set_cons_succ]
          refine wpAnyH_take (i := 11) (oi := ⟨some 22, _, _, _, _, none⟩) (v := (.int .i64 0)) rfl (by kernel_rfl) (by kernel_rfl) (by kernel_rfl) (fun _ _ _ h => h) (Or.inl ⟨by rfl, fun W hW => ?_⟩) (by assumption) ?_
          · go_simp
          simp only [Act.put, List.setIfInBounds_toArray, List.set_cons_zero, List.set_cons_succ]
          refine wpAnyH_done (by kernel_rfl) ?_ _
          clear hHeld HXS HX7 HBK7 HG7 HBE7 HKB HR7 HX5 HBK5 HBE5 HB7 HH7
          go_wp2_with fail
          refine (sameRows_any (some ⟨G, 0, none⟩) (some ⟨G2, 0, none⟩) K K sc _ _ _ _ _ _ _ _ (by omega) (fun i hh => by show p6 ≤ _; omega) _ HG8.out.rd HG28.out.rd (fun i hh => ⟨rfl, rfl⟩)).mono ?_
          rintro e w9 ⟨rfl, hq9⟩
          have hB9 := drewb6 hq9
          have HT9 := Lib.hid (HT4.out.asked2 HC5.out HBT.out (HBW8.out.trans (But.of hB9)) (HRF8.out.same hB9) HMAP.out HDR.out HNE.out (HBE8.out.trans (hB9.mono HBE8.out.size))); have HX9 := Lib.hid (HX8.out.same hB9); have HBK9 := Lib.hid (HBK8.out.same hB9)
          clear hq9 hB9
          go_wp2_with fail
          go_meet
          exact ⟨_, _, _, _, _, _, _, _, HT9.out, by rw [asked_sum]; omega, HX9.out, HBK9.out⟩
      · have HXS := Lib.hid (fun (W : World) (hW : W.heap[xa]? = wi.heap[xa]?) => (show Xb W xa qw qk ql qf qa li qc from hW.trans HXI.out))
        go_wp2_with fail
        refine wp_region_held_drew (S := fun W => W.heap[xa]? = wi.heap[xa]?) (by kernel_rfl) (rfl) (fun hHeld => ?_)
        refine wpAnyH_take (i := 0) (oi := ⟨some 143, _, _, _, _, none⟩) (v := (.pointer (some ⟨c0, 0, none⟩))) rfl (by kernel_rfl) (by kernel_rfl) (by kernel_rfl) (fun _ _ _ h => h) (Or.inl ⟨by rfl, fun W hW => ?_⟩) (by assumption) ?_
        · go_simp
        simp only [Act.put, List.setIfInBounds_toArray, List.set_cons_zero, List.set_cons_succ]
        refine wpAnyH_take (i := 1) (oi := ⟨some 144, _, _, _, _, none⟩) (v := (.pointer (some ⟨xa, 1, none⟩))) rfl (by kernel_rfl) (by kernel_rfl) (by kernel_rfl) (fun _ _ _ h => h) (Or.inl ⟨by rfl, fun W hW => ?_⟩) (by assumption) ?_
        · go_simp
        simp only [Act.put, List.setIfInBounds_toArray, List.set_cons_zero, List.set_cons_succ]
        refine wpAnyH_take (i := 2) (oi := ⟨some 145, _, _, _, _, none⟩) (v := (.int .i64 qk)) rfl (by kernel_rfl) (by kernel_rfl) (by kernel_rfl) (fun _ _ _ h => h) (Or.inl ⟨by rfl, fun W hW => ?_⟩) (by assumption) ?_
        · have := (HXS.out W hW).c1; go_simp
        simp only [Act.put, List.setIfInBounds_toArray, List.set_cons_zero, List.set_cons_succ]
        refine wpAnyH_take (i := 3) (oi := ⟨some 146, _, _, _, _, none⟩) (v := (.slice (some ⟨I, 0, none⟩) li (li + 12))) rfl (by kernel_rfl) (by kernel_rfl) (by kernel_rfl) (fun _ _ _ h => h) (Or.inl ⟨by rfl, fun W hW => ?_⟩) (by assumption) ?_
        · go_simp
        simp only [Act.put, List.setIfInBounds_toArray, List.set_cons_zero, List.set_cons_succ]
        refine wpAnyH_take (i := 5) (oi := ⟨some 148, _, _, _, _, none⟩) (v := (.pointer (some ⟨x, 0, none⟩))) rfl (by kernel_rfl) (by kernel_rfl) (by kernel_rfl) (fun _ _ _ h => h) (Or.inl ⟨by rfl, fun W hW => ?_⟩) (by assumption) ?_
        · go_simp
        simp only [Act.put, List.setIfInBounds_toArray, List.set_cons_zero, List.set_cons_succ]
        refine wpAnyH_take (i := 6) (oi := ⟨some 149, _, _, _, _, none⟩) (v := (.pointer (some ⟨xa, 1, none⟩))) rfl (by kernel_rfl) (by kernel_rfl) (by kernel_rfl) (fun _ _ _ h => h) (Or.inl ⟨by rfl, fun W hW => ?_⟩) (by assumption) ?_
        · go_simp
        simp only [Act.put, List.setIfInBounds_toArray, List.set_cons_zero, List.set_cons_succ]
        refine wpAnyH_take (i := 7) (oi := ⟨some 150, _, _, _, _, none⟩) (v := (.int .i64 qk)) rfl (by kernel_rfl) (by kernel_rfl) (by kernel_rfl) (fun _ _ _ h => h) (Or.inl ⟨by rfl, fun W hW => ?_⟩) (by assumption) ?_
        · have := (HXS.out W hW).c1; go_simp
        simp only [Act.put, List.setIfInBounds_toArray, List.set_cons_zero, List.set_cons_succ]
        refine wpAnyH_take (i := 8) (oi := ⟨some 151, _, _, _, _, none⟩) (v := (.pointer (some ⟨xa, 4, none⟩))) rfl (by kernel_rfl) (by kernel_rfl) (by kernel_rfl) (fun _ _ _ h => h) (Or.inl ⟨by rfl, fun W hW => ?_⟩) (by assumption) ?_
        · go_simp
        simp only [Act.put, List.setIfInBounds_toArray, List.set_cons_zero, List.set_cons_succ]
        refine wpAnyH_take (i := 9) (oi := ⟨some 152, _, _, _, _, none⟩) (v := (.slice qa li qc)) rfl (by kernel_rfl) (by kernel_rfl) (by kernel_rfl) (fun _ _ _ h => h) (Or.inl ⟨by rfl, fun W hW => ?_⟩) (by assumption) ?_
        · have := (HXS.out W hW).c4; go_simp
        simp only [Act.put, List.setIfInBounds_toArray, List.set_cons_zero, List.set_cons_succ]
        refine wpAnyH_ready (rs := [4]) (by kernel_rfl) (by simp) (AllReadyH.cons rfl (fun KK hKK => ?_) AllReadyH.nil)
        go_simp
        refine (cahas_any N rm c0 cb s b hi mi L T qk (some ⟨I, 0, none⟩) li (li + 12) h (by omega) (by omega) (by unfold maxLen; omega) _ (HTI.out.ca.same (below_dr (Below.refl _ _) 1)) (show Si wi.drew (some ⟨I, 0, none⟩) li h from si_lent HBK.out)).mono ?_
        rintro e w4 ⟨v1, rfl, hv1, hB4'⟩
        dsimp only
        have hB4 : Below wi.heap.size wi w4 := (below_dr (Below.refl _ wi) 1).trans hB4'
        refine hKK.out _ _ (hB4.block _ (Array.getElem?_eq_some_iff.1 HXI.out).1) (fun hHeld => ?_)
        clear hKK KK
        try simp only [Act.put, List.setIfInBounds_toArray, List.set_cons_zero, List.set_cons_succ]
        have HT4 := Lib.hid (HTI.out.same hB4); have HX4 := Lib.hid (HXI.out.same hB4); have HBK4 := Lib.hid (HBK.out.same hB4); have HV1 := Lib.hid hv1
        have HEQ4 := Lib.hid (hB4.block _ (Array.getElem?_eq_some_iff.1 HXI.out).1)
        clear hB4 hB4' hv1
        refine wpAnyH_ready (rs := [10]) (by kernel_rfl) (by simp) (AllReadyH.cons rfl (fun KK hKK => ?_) AllReadyH.nil)
        go_simp
        refine (rhas_any B x N rm hi mi dr ra rc E qk qa li qc h (by omega) o1 o2 _ HT4.out.rf (HSI.out.same HT4.out.be)).mono ?_
        rintro e w5 ⟨v2, rfl, hv2, hB5⟩
        dsimp only
        refine hKK.out _ _ ((hB5.block _ (Array.getElem?_eq_some_iff.1 HX4.out).1).trans HEQ4.out) (fun hHeld => ?_)
        clear hKK KK
        try simp only [Act.put, List.setIfInBounds_toArray, List.set_cons_zero, List.set_cons_succ]
        have HT5 := Lib.hid (HT4.out.same hB5); have HX5 := Lib.hid (HX4.out.same hB5); have HBK5 := Lib.hid (HBK4.out.same hB5)
        obtain rfl : v1 = v2 := by
          rw [HT4.out.lit] at hv2
          exact Bool.eq_iff_iff.mpr (HV1.out.trans hv2.symm)
        have gv : (v1 != v1) = false := by simp
        refine wpAnyH_take (i := 11) (oi := ⟨some 154, _, _, _, _, none⟩) (v := (.bool false)) rfl (by kernel_rfl) (by kernel_rfl) (by kernel_rfl) (fun _ _ _ h => h) (Or.inl ⟨by rfl, fun W hW => ?_⟩) (by assumption) ?_
        · cases v1 <;> go_simp
        simp only [Act.put, List.setIfInBounds_toArray, List.set_cons_zero, List.set_cons_succ]
        refine wpAnyH_done (by kernel_rfl) ?_ _
        clear hHeld hB5 hv2 HV1 HEQ4 HT4 HX4 HBK4 gv
        go_wp2_with fail
        go_meet
        exact ⟨hi, mi, dr, ra, rc, L, T, E, HT5.out, by omega, HX5.out, HBK5.out⟩
    case rest =>
      obtain ⟨hi2, mi2, dr2, ra2, rc2, L2, T2, E2, hTw, hbd2, hX, hBk⟩ := hcut
      obtain ⟨wm, rfl⟩ : ∃ wm : World, wm = wc := ⟨_, rfl⟩
      have HT2 := Lib.hid hTw; have HX2 := Lib.hid hX; have HBK2 := Lib.hid hBk
      have hbe := hTw.be.size
      have hcn := hTw.ca.cnt
      have HS6 := Lib.hid (same6_any N rm c0 cb s b hi2 mi2 L2 T2 B x N rm dr2 ra2 rc2 E2 hTw.len hTw.dr (by omega) wm hTw.ca hTw.rf)
      clear hTw hX hBk HTI HXI HBK
      go_wp2_with fail
      refine HS6.out.mono ?_
      rintro e w7 ⟨rfl, hB7⟩
      have HT7 := Lib.hid (HT2.out.same hB7); have HX7 := Lib.hid (HX2.out.same hB7); have HBK7 := Lib.hid (HBK2.out.same hB7)
      clear hB7 HS6 HT2 HX2 HBK2
      have x4 := HX7.out.c4
      have hbe7 := HT7.out.be.size
      go_wp2_with fail
      refine (keptInts_any I qa li qc h _ (HHI.out.same HT7.out.be) HBK7.out (by omega)).mono ?_
      rintro e w8 ⟨rfl, q8, hq8⟩
      have HT8 := Lib.hid (HT7.out.same (W' := w8) (by rw [hq8]; exact below_dr (Below.refl _ _) q8))
      clear hq8 x4 HT7 HX7 HBK7
      go_wp2_with fail
      go_roundw
      case rel =>
        first
        | exact ⟨k + 1, hi2, mi2, dr2, ra2, rc2, L2, T2, E2, by omega, by go_num, HT8.out, by omega⟩
        | (repeat apply Exists.intro
           exact ⟨⟨k + 1, hi2, mi2, dr2, ra2, rc2, L2, T2, E2, by omega, by go_num, HT8.out, by omega⟩, rfl⟩)
      case measure => simp [intOf]; omega
end Go.Proofs.YtjnfghhochcpaaaGreat

namespace Go.Proofs.YtjnfghhochcpaaaGreat
open Go.RowKit Go.Shelf

/-- no cache. -/
def NoC (w : World) (p : Option Addr) : Prop := p = none ∨ ∃ g, p = some ⟨g, 0, none⟩ ∧ w.cell? ⟨g, 2, none⟩ = some (.pointer none)
theorem NoC.same {w w' : World} {p : Option Addr} (h : NoC w p) (hB : Below w.heap.size w w') : NoC w' p := by
  rcases h with h | ⟨g, e, hc⟩
  · exact Or.inl h
  · exact Or.inr ⟨g, e, by rw [hB.cell (World.block_lt_of_cell? _ _ hc)]; exact hc⟩
set_option maxHeartbeats 400000 in
theorem cnil_any (p : Option Addr) (w : World) (h : NoC w p) :
    Calls Tryz.prog 51 #[.pointer p] w fun e w' => e = .returned (.bool true) ∧ w' = w := by
  rcases h with rfl | ⟨g, rfl, hc⟩
  · go_enter Tryz.func51, Tryz.ntmps51
    go_wp2
    go_ret
    exact ⟨rfl, rfl⟩
  · go_enter Tryz.func51, Tryz.ntmps51
    go_wp2
    go_ret
    exact ⟨rfl, rfl⟩
set_option maxHeartbeats 400000 in
theorem tnil_any (p : Option Addr) (k v : Value) (w : World) (h : NoC w p) :
    Calls Tryz.prog 16 #[.pointer p, k, v] w fun e w' => e = .returned (.tuple #[.slice none 0 0, .int .i64 1]) ∧ w' = w := by
  have H := Lib.hid (cnil_any p w h); clear h
  go_enter Tryz.func16, Tryz.ntmps16
  go_wp2_with fail
  refine H.out.mono ?_
  rintro e w' ⟨rfl, rfl⟩
  go_wp2
  go_ret2
  exact ⟨rfl, rfl⟩
set_option maxHeartbeats 400000 in
theorem dnil_any (p : Option Addr) (k v : Value) (w : World) (h : NoC w p) :
    Calls Tryz.prog 20 #[.pointer p, k, v] w fun e w' => e = .returned (.tuple #[.slice none 0 0, .int .i64 1]) ∧ w' = w := by
  have H := Lib.hid (cnil_any p w h); clear h
  go_enter Tryz.func20, Tryz.ntmps20
  go_wp2_with fail
  refine H.out.mono ?_
  rintro e w' ⟨rfl, rfl⟩
  go_wp2
  go_ret2
  exact ⟨rfl, rfl⟩
set_option maxHeartbeats 400000 in
theorem hnil_any (p : Option Addr) (k v : Value) (w : World) (h : NoC w p) :
    Calls Tryz.prog 24 #[.pointer p, k, v] w fun e w' => e = .returned (.bool false) ∧ w' = w := by
  have H := Lib.hid (cnil_any p w h); clear h
  go_enter Tryz.func24, Tryz.ntmps24
  go_wp2_with fail
  refine H.out.mono ?_
  rintro e w' ⟨rfl, rfl⟩
  go_wp2
  go_ret
  exact ⟨rfl, rfl⟩
set_option maxHeartbeats 400000 in
theorem snil_any (p : Option Addr) (w : World) (h : NoC w p) :
    Calls Tryz.prog 47 #[.pointer p] w fun e w' => e = .returned (.agg #[.int .i64 0, .int .i64 0, .int .i64 0, .int .i64 0]) ∧ Below w.heap.size w w' := by
  have H := Lib.hid (fun W (hB : Below w.heap.size w W) => cnil_any p W (h.same hB)); clear h
  go_enter Tryz.func47, Tryz.ntmps47
  go_wp2_with fail
  refine (H.out _ ((Below.refl _ _).alloc (Nat.le_refl _) _)).mono ?_
  rintro e w' ⟨rfl, hw'⟩
  rw [hw']; clear hw'
  go_wp2
  exact bodyPost_ret (v := .agg #[.int .i64 0, .int .i64 0, .int .i64 0, .int .i64 0]) (by simp [results, Tryz.results47, go_sem]) rfl ⟨rfl, (Below.refl _ _).alloc (Nat.le_refl _) _⟩

/-- two caches that are none, in a list behind the one's block. -/
structure NilC (g : Nat) (w : World) : Prop where
  c0 : w.cell? ⟨g + 1, 0, none⟩ = some (.pointer none)
  c1 : w.cell? ⟨g + 1, 1, none⟩ = some (.pointer (some ⟨g, 0, none⟩))
  c2 : w.cell? ⟨g, 2, none⟩ = some (.pointer none)
theorem NilC.same {g : Nat} {w w' : World} (h : NilC g w) (hB : Below w.heap.size w w') : NilC g w' :=
  ⟨by rw [hB.cell (World.block_lt_of_cell? _ _ h.c0)]; exact h.c0, by rw [hB.cell (World.block_lt_of_cell? _ _ h.c1)]; exact h.c1, by rw [hB.cell (World.block_lt_of_cell? _ _ h.c2)]; exact h.c2⟩
theorem NilC.at_ {g : Nat} {w : World} (h : NilC g w) {i : Nat} (hi : i < 2) : ∃ p, w.cell? ⟨g + 1, i, none⟩ = some (.pointer p) ∧ NoC w p := by
  match i, hi with
  | 0, _ => exact ⟨none, h.c0, Or.inl rfl⟩
  | 1, _ => exact ⟨_, h.c1, Or.inr ⟨g, rfl, h.c2⟩⟩
  | i + 2, hi => exact absurd hi (by omega)
theorem nil_cells (w : World) : NilC w.heap.size ((w.alloc (.cells #[.int .i64 0, .pointer none, .pointer none] 101)).alloc (.cells #[.pointer none, .pointer (some ⟨w.heap.size, 0, none⟩)] 33)) := by
  have e : (w.alloc (.cells #[.int .i64 0, .pointer none, .pointer none] 101)).heap.size = w.heap.size + 1 := by simp
  refine ⟨?_, ?_, ?_⟩
  · rw [← e, World.cell?_alloc_new]; rfl
  · rw [← e, World.cell?_alloc_new]; rfl
  · have : (w.alloc (.cells #[.int .i64 0, .pointer none, .pointer none] 101)).cell? ⟨w.heap.size, 2, none⟩ = some (.pointer none) := by rw [World.cell?_alloc_new]; rfl
    rw [((Below.refl _ (w.alloc (.cells #[.int .i64 0, .pointer none, .pointer none] 101))).alloc (Nat.le_refl _) _).cell (World.block_lt_of_cell? _ _ this)]; exact this
set_option maxHeartbeats 2000000 in
set_option maxRecDepth 100000 in
theorem none6_any (w : World) :
    Calls Tryz.prog 28 #[] w fun e w' => e = .returned (.bool true) ∧ Below w.heap.size w w' := by
  go_enter Tryz.func28, Tryz.ntmps28
  have H0 := Lib.hid (nil_cells w)
  go_wp2_with fail
  go_loopw [2] (fun v wr => ∃ i : Nat, i ≤ 2 ∧ v = .int .i64 (i : Nat) ∧ NilC w.heap.size wr ∧ Below w.heap.size w wr) (fun v _ => 2 - (intOf v).toNat)
  case atStart => exact ⟨0, by omega, rfl, H0.out, ((Below.refl _ w).alloc (Nat.le_refl _) _).alloc (by simp) _⟩
  case round =>
    obtain ⟨i, hi, rfl, hN, hB⟩ := hrel
    obtain ⟨wo, rfl⟩ : ∃ wo : World, wo = wr := ⟨_, rfl⟩
    have HN := Lib.hid hN; have HB := Lib.hid hB; clear hN hB H0
    by_cases hlt : i < 2
    · have i1 : (i : Int) < 2 := by omega
      obtain ⟨p, hp, hno⟩ := HN.out.at_ hlt
      have HNO := Lib.hid hno; clear hno
      have hsz := HB.out.size
      go_wp2_with fail
      refine (tnil_any p _ _ _ (HNO.out.same ((Below.refl _ _).alloc (Nat.le_refl _) _))).mono ?_
      rintro e w' ⟨rfl, hw'⟩
      rw [hw']; clear hw'
      obtain ⟨wa, hwa⟩ : ∃ wa, wa = wo.alloc (.cells #[.int .i64 0] 3) := ⟨_, rfl⟩
      rw [← hwa]
      have hba : Below wo.heap.size wo wa := by rw [hwa]; exact (Below.refl _ _).alloc (Nat.le_refl _) _
      have hpa : wa.cell? ⟨w.heap.size + 1, i, none⟩ = some (.pointer p) := by rw [hba.cell (World.block_lt_of_cell? _ _ hp)]; exact hp
      have HNA := Lib.hid (HN.out.same hba); have HNO2 := Lib.hid (HNO.out.same hba); have HBA := Lib.hid (HB.out.trans (hba.mono hsz))
      clear hwa hba hp HN HNO HB
      go_wp2_with fail
      refine (dnil_any p _ _ _ (HNO2.out.same ((Below.refl _ _).alloc (Nat.le_refl _) _))).mono ?_
      rintro e w' ⟨rfl, hw'⟩
      rw [hw']; clear hw'
      obtain ⟨wb, hwb⟩ : ∃ wb, wb = wa.alloc (.cells #[.int .i64 0, .slice none 0 0] 26) := ⟨_, rfl⟩
      rw [← hwb]
      have hbb : Below wa.heap.size wa wb := by rw [hwb]; exact (Below.refl _ _).alloc (Nat.le_refl _) _
      have hpb : wb.cell? ⟨w.heap.size + 1, i, none⟩ = some (.pointer p) := by rw [hbb.cell (World.block_lt_of_cell? _ _ hpa)]; exact hpa
      have HNB := Lib.hid (HNA.out.same hbb); have HNO3 := Lib.hid (HNO2.out.same hbb); have HBB := Lib.hid (HBA.out.trans (hbb.mono HBA.out.size))
      clear hwb hbb hpa HNA HNO2 HBA
      go_wp2_with fail
      refine (hnil_any p _ _ _ (HNO3.out.same ((Below.refl _ _).alloc (Nat.le_refl _) _))).mono ?_
      rintro e w' ⟨rfl, hw'⟩
      rw [hw']; clear hw'
      obtain ⟨wc, hwc⟩ : ∃ wc, wc = wb.alloc (.cells #[.int .i64 0] 3) := ⟨_, rfl⟩
      rw [← hwc]
      have hbc : Below wb.heap.size wb wc := by rw [hwc]; exact (Below.refl _ _).alloc (Nat.le_refl _) _
      have hpc : wc.cell? ⟨w.heap.size + 1, i, none⟩ = some (.pointer p) := by rw [hbc.cell (World.block_lt_of_cell? _ _ hpb)]; exact hpb
      have HNC := Lib.hid (HNB.out.same hbc); have HNO4 := Lib.hid (HNO3.out.same hbc); have HBC := Lib.hid (HBB.out.trans (hbc.mono HBB.out.size))
      clear hwc hbc hpb HNB HNO3 HBB
      go_wp2_with fail
      refine (snil_any p _ HNO4.out).mono ?_
      rintro e wd ⟨rfl, hBd⟩
      have HND := Lib.hid (HNC.out.same hBd); have HBD := Lib.hid (HBC.out.trans (hBd.mono HBC.out.size)); clear hBd
      go_wp2_with fail
      go_roundw
      case rel =>
        first
        | exact ⟨i + 1, by omega, by go_num, HND.out, HBD.out⟩
        | (repeat apply Exists.intro
           exact ⟨⟨i + 1, by omega, by go_num, HND.out, HBD.out⟩, rfl⟩)
      case measure => simp [intOf]; omega
    · obtain rfl : i = 2 := by omega
      go_wp2
      go_ret
      exact ⟨rfl, HB.out⟩
end Go.Proofs.YtjnfghhochcpaaaGreat

namespace Go.Proofs.YtjnfghhochcpaaaGreat
open Go.RowKit Go.Shelf

theorem Tryz.infoAsk : (Tryz.prog.info? 41).map (fun i => (i.zero, i.size, i.bytes)) = some (some (.agg #[.int .i64 0, .int .i64 0, .int .i64 0, .int .u8 0, .slice none 0 0]), 5, 56) := by kernel_rfl
/-- asks, as they are laid one behind the other. -/
def acells (wh kq lg : Nat → Int) (ia il ic : Nat → Nat) : Nat → List Value
  | 0 => []
  | k + 1 => acells wh kq lg ia il ic k ++ [.int .i64 (wh k), .int .i64 (kq k), .int .i64 (lg k), .int .u8 0, .slice (some ⟨ia k, 0, none⟩) (il k) (ic k)]
theorem acells_len (wh kq lg : Nat → Int) (ia il ic : Nat → Nat) : ∀ k, (acells wh kq lg ia il ic k).length = k * 5
  | 0 => rfl
  | k + 1 => by unfold acells; rw [List.length_append, acells_len wh kq lg ia il ic k]; simp; omega
theorem acells_at (wh kq lg : Nat → Int) (ia il ic : Nat → Nat) : ∀ k i j v, i < k → [Value.int .i64 (wh i), .int .i64 (kq i), .int .i64 (lg i), .int .u8 0, .slice (some ⟨ia i, 0, none⟩) (il i) (ic i)][j]? = some v → (acells wh kq lg ia il ic k)[i * 5 + j]? = some v
  | 0, _, _, _, h, _ => absurd h (Nat.not_lt_zero _)
  | k + 1, i, j, v, h, hj => by
    have hj5 : j < 5 := by
      have := (List.getElem?_eq_some_iff.1 hj).1
      simpa using this
    unfold acells
    have hl := acells_len wh kq lg ia il ic k
    by_cases e : i = k
    · subst e
      rw [List.getElem?_append_right (by omega), hl, show i * 5 + j - i * 5 = j by omega]; exact hj
    · rw [List.getElem?_append_left (by omega)]
      exact acells_at wh kq lg ia il ic k i j v (by omega) hj
theorem acells_congr {wh kq lg wh' kq' lg' : Nat → Int} {ia il ic ia' il' ic' : Nat → Nat} : ∀ k, (∀ i, i < k → wh i = wh' i ∧ kq i = kq' i ∧ lg i = lg' i ∧ ia i = ia' i ∧ il i = il' i ∧ ic i = ic' i) → acells wh kq lg ia il ic k = acells wh' kq' lg' ia' il' ic' k
  | 0, _ => rfl
  | k + 1, h => by
    obtain ⟨h1, h2, h3, h4, h5, h6⟩ := h k (by omega)
    unfold acells
    rw [acells_congr k (fun i hi => h i (by omega)), h1, h2, h3, h4, h5, h6]
/-- asks of one's own making. -/
structure Al (w : World) (B : Nat) (a : Option Addr) (k c : Nat) (wh kq lg : Nat → Int) (ia il ic : Nat → Nat) (hI : Nat → Nat → Int) : Prop where
  own : w.ownsRow B 41 5 (.slice a k c) k (acells wh kq lg ia il ic k)
  blk : ∀ i, i < k → ∃ cur : Array Value, w.heap[ia i]? = some (.cells cur 3 (0, 0)) ∧ ∀ j, j < il i → cur[j]? = some (.int .i64 (hI i j))
  ok : ∀ i, i < k → il i ≤ ic i ∧ ic i ≤ 1000
def AlX (w : World) (B : Nat) (a : Option Addr) (k c : Nat) : Prop := ∃ wh kq lg ia il ic hI, Al w B a k c wh kq lg ia il ic hI
section
variable {w w' : World} {B : Nat} {a : Option Addr} {k c : Nat} {wh kq lg : Nat → Int} {ia il ic : Nat → Nat} {hI : Nat → Nat → Int}
theorem Al.same (h : Al w B a k c wh kq lg ia il ic hI) (hB : Below w.heap.size w w') : Al w' B a k c wh kq lg ia il ic hI :=
  ⟨own_below h.own hB, fun i hi => by
    obtain ⟨cur, h1, h2⟩ := h.blk i hi
    exact ⟨cur, (hB.block _ (Array.getElem?_eq_some_iff.1 h1).1).trans h1, h2⟩, h.ok⟩
theorem Al.as (h : Al w B a k c wh kq lg ia il ic hI) : As w a k wh kq lg (fun _ => 0) (fun i => some ⟨ia i, 0, none⟩) il ic hI := by
  refine ⟨fun i hi => ?_, fun i hi => ⟨fun j hj => ?_⟩, fun i hi => ?_, fun i hi e => (by cases e)⟩
  · obtain ⟨g, cap, hv, _, _⟩ := h.own.form (by omega)
    injection hv with e1
    subst e1
    have o := h.own
    have at_ : ∀ j v, j < 5 → [Value.int .i64 (wh i), .int .i64 (kq i), .int .i64 (lg i), .int .u8 0, .slice (some ⟨ia i, 0, none⟩) (il i) (ic i)][j]? = some v → w.cell? ⟨g, 0 + i * 5 + j, none⟩ = some v := fun j v h5 hj => by
      rw [Nat.zero_add, o.cellAt (i * 5 + j) (by omega)]
      exact acells_at wh kq lg ia il ic k i j v hi hj
    exact ⟨g, 0, rfl, at_ 0 _ (by omega) rfl, at_ 1 _ (by omega) rfl, at_ 2 _ (by omega) rfl, at_ 3 _ (by omega) rfl, at_ 4 _ (by omega) rfl⟩
  · obtain ⟨cur, h1, h2⟩ := h.blk i hi
    refine ⟨ia i, 0, rfl, ?_⟩
    rw [Nat.zero_add, cell_of_row w (ia i) j _ _ _ h1]; exact h2 j hj
  · have := h.ok i hi
    exact ⟨this.1, by unfold maxLen; omega, by omega, by omega⟩
end
theorem al_nil (w : World) (B : Nat) : AlX w B none 0 0 := ⟨fun _ => 0, fun _ => 0, fun _ => 0, fun _ => 0, fun _ => 0, fun _ => 0, fun _ _ => 0, World.ownsRow_nil _ _ _ _, fun _ hi => absurd hi (Nat.not_lt_zero _), fun _ hi => absurd hi (Nat.not_lt_zero _)⟩
theorem cell_five (w : World) (a b c d e : Value) (t : TypeId) (N : Nat) (hN : N = w.heap.size) : ∀ j u, [a, b, c, d, e][j]? = some u → (w.alloc (.cells #[a, b, c, d, e] t)).cell? ((⟨N, 0, none⟩ : Addr).add j) = some u := by
  intro j u hj
  subst hN
  rw [Addr.add_lit, Nat.zero_add, World.cell?_alloc_new]
  simpa using hj
theorem ask_ones (y0 y1 y2 : Int) (x : Option Addr) (l c : Nat) : ∀ u ∈ [Value.int .i64 y0, .int .i64 y1, .int .i64 y2, .int .u8 0, .slice x l c], u.oneCell' = true := by
  intro u hu
  simp only [List.mem_cons, List.not_mem_nil, or_false] at hu
  rcases hu with rfl | rfl | rfl | rfl | rfl <;> rfl
/-- one ask more, behind an append. -/
theorem AlX.push {w w1 w2 : World} {B : Nat} {a a' : Option Addr} {k c c' g l cc : Nat} {y0 y1 y2 : Int} {vs : List Int} {wh kq lg : Nat → Int} {ia il ic : Nat → Nat} {hI : Nat → Nat → Int}
    (h : Al w B a k c wh kq lg ia il ic hI) (own : w2.ownsRow B 41 5 (.slice a' (k + 1) c') (k + 1) (acells wh kq lg ia il ic k ++ [.int .i64 y0, .int .i64 y1, .int .i64 y2, .int .u8 0, .slice (some ⟨g, 0, none⟩) l cc]))
    (hB : Below w.heap.size w w1) (hgr : w1.grownBy w2 (Value.slice a k c).ownBlock)
    (hg : w1.heap[g]? = some (.cells (vs.map (Value.int .i64)).toArray 3 (0, 0))) (hl : l ≤ vs.length) (hlc : l ≤ cc ∧ cc ≤ 1000) : AlX w2 B a' (k + 1) c' := by
  have kept : ∀ {y : Nat} {cur : Array Value}, w1.heap[y]? = some (.cells cur 3 (0, 0)) → w2.heap[y]? = some (.cells cur 3 (0, 0)) := fun {y cur} hy => by
    rw [hgr.block y (Array.getElem?_eq_some_iff.1 hy).1 (fun e => ?_)]
    · exact hy
    · exact block_ne (vs := cur.toList) (own_below h.own hB) (by unfold Block; simpa using hy) (by decide) e.symm
  refine ⟨fun j => if j = k then y0 else wh j, fun j => if j = k then y1 else kq j, fun j => if j = k then y2 else lg j, fun j => if j = k then g else ia j, fun j => if j = k then l else il j, fun j => if j = k then cc else ic j, fun i j => if i = k then vs.getD j 0 else hI i j, ?_, fun i hi => ?_, fun i hi => ?_⟩
  · show w2.ownsRow B _ 5 _ (k + 1) (acells _ _ _ _ _ _ k ++ _)
    rw [acells_congr (wh' := wh) (kq' := kq) (lg' := lg) (ia' := ia) (il' := il) (ic' := ic) k (fun i hi => by
      have e : ¬ i = k := by omega
      simp only [if_neg e, and_self])]
    simp only [if_true]
    exact own
  · by_cases e : i = k
    · simp only [if_pos e]
      refine ⟨_, kept hg, fun j hj => ?_⟩
      rw [List.getElem?_toArray, List.getElem?_map]
      have : vs[j]? = some (vs.getD j 0) := by
        have hj' : j < vs.length := by omega
        simp [hj']
      rw [this]; rfl
    · simp only [if_neg e]
      obtain ⟨cur, h1, h2⟩ := h.blk i (by omega)
      exact ⟨cur, kept ((hB.block _ (Array.getElem?_eq_some_iff.1 h1).1).trans h1), h2⟩
  · by_cases e : i = k
    · simp only [if_pos e]; exact hlc
    · simp only [if_neg e]; exact h.ok i (by omega)
end Go.Proofs.YtjnfghhochcpaaaGreat

namespace Go.Proofs.YtjnfghhochcpaaaGreat
open Go.RowKit Go.Shelf

theorem heap_two (w : World) (A B : Obj) : ((w.alloc A).alloc B).heap[w.heap.size]? = some A := by
  have h := heap_alloc_new w A
  rw [((Below.refl _ (w.alloc A)).alloc (Nat.le_refl _) B).block _ (Array.getElem?_eq_some_iff.1 h).1]; exact h
/-- numbers and rooms about the ends. -/
def EndC (Lb : Nat) (w : World) : Prop := w.heap[Lb]? = some (.cells #[.int .i64 255, .int .i64 64, .int .i64 256, .int .i64 1, .int .i64 1, .int .i64 65, .int .i64 0, .int .i64 1, .int .i64 1, .int .i64 0, .int .i64 (-1), .int .i64 5] 59 (0, 0))
theorem EndC.c {Lb : Nat} {w : World} (h : EndC Lb w) (j : Nat) (v : Value) (hv : (#[.int .i64 255, .int .i64 64, .int .i64 256, .int .i64 1, .int .i64 1, .int .i64 65, .int .i64 0, .int .i64 1, .int .i64 1, .int .i64 0, .int .i64 (-1), .int .i64 5] : Array Value)[j]? = some v) : w.cell? ⟨Lb, j, none⟩ = some v := by
  rw [cell_of_row w Lb j _ _ _ h]; exact hv
theorem EndC.same {Lb : Nat} {w w' : World} (h : EndC Lb w) (hB : Below w.heap.size w w') : EndC Lb w' := (hB.block _ (Array.getElem?_eq_some_iff.1 h).1).trans h
theorem cn_yes (w : World) : Calls Tryz.prog 12 #[.int .i64 255, .int .i64 64] w fun e w' => ∃ p, e = .returned (.tuple #[.pointer p, .int .i64 0]) ∧ Below w.heap.size w w' :=
  (canew_yes 255 64 (by omega) (by omega) (by omega) (by omega) w).mono fun e w' ⟨c0, cb, s, b, h1, _, _, _, _, h2⟩ => ⟨_, h1, h2⟩
theorem cn_no (n r : Int) (h : ¬ (1 ≤ n ∧ n ≤ 255 ∧ 1 ≤ r ∧ r ≤ 64)) (w : World) : Calls Tryz.prog 12 #[.int .i64 n, .int .i64 r] w fun e w' => ∃ p, e = .returned (.tuple #[.pointer p, .int .i64 2]) ∧ Below w.heap.size w w' :=
  (canew_no n r h w).mono fun e w' ⟨h1, h2⟩ => ⟨none, h1, by rw [h2]; exact Below.refl _ _⟩
theorem i64_fit (n : Int) (h : -1000000 ≤ n ∧ n ≤ 1000000) : IntKind.i64.wrap n = n := IntWalk.i64_in _ (by omega)
set_option maxHeartbeats 8000000 in
set_option maxRecDepth 100000 in
theorem cacheEnds_any (w : World) :
    Calls Tryz.prog 5 #[] w fun e w' => e = .returned (.bool true) ∧ Below w.heap.size w w' := by
  obtain ⟨i0, hi, hz0, hz1, hz2⟩ := info_parts Tryz.infoAsk
  have HI := Lib.hid hi; have HZ0 := Lib.hid hz0; have HZ1 := Lib.hid hz1; have HZ2 := Lib.hid hz2
  clear hi hz0 hz1 hz2
  go_enter Tryz.func5, Tryz.ntmps5
  go_wp2_with fail
  go_loopw [1] (fun v wr => ∃ n : Int, -1 ≤ n ∧ n ≤ 4 ∧ v = .int .i64 n ∧ Below w.heap.size w wr) (fun v _ => (4 - intOf v).toNat)
  case atStart => exact ⟨-1, by omega, by omega, rfl, Below.refl _ _⟩
  case round =>
    obtain ⟨w1, rfl⟩ : ∃ w1 : World, w1 = wr := ⟨_, rfl⟩
    obtain ⟨n, hn1, hn2, rfl, hB⟩ := hrel
    have HB1 := Lib.hid hB; clear hB
    by_cases hlt : n < 4
    · go_wp2_with fail
      go_loopw [2] (fun v wr => ∃ r : Int, -1 ≤ r ∧ r ≤ 5 ∧ v = .int .i64 r ∧ Below w.heap.size w wr) (fun v _ => (5 - intOf v).toNat)
      case atStart => exact ⟨-1, by omega, by omega, rfl, HB1.out⟩
      case round =>
        obtain ⟨w2, rfl⟩ : ∃ w2 : World, w2 = wr := ⟨_, rfl⟩
        obtain ⟨r, hr1, hr2, rfl, hB⟩ := hrel
        have HB2 := Lib.hid hB; clear hB
        by_cases hlr : r < 5
        · go_wp2_with fail
          go_loopw [3, 4] (fun s t wr => ∃ (k : Nat) (a : Option Addr) (c : Nat), k ≤ 24 ∧ t = .int .i64 (k : Nat) ∧ s = .slice a k c ∧ AlX wr w.heap.size a k c ∧ Below w.heap.size w wr) (fun _ t _ => 24 - (intOf t).toNat)
          case atStart => exact ⟨0, none, 0, by omega, rfl, rfl, al_nil _ _, HB2.out⟩
          case round =>
            obtain ⟨w3, rfl⟩ : ∃ w3 : World, w3 = wr := ⟨_, rfl⟩
            obtain ⟨k, a, c, hk, rfl, rfl, hal, hB⟩ := hrel
            have HAL := Lib.hid hal; have HB3 := Lib.hid hB; clear hB hal
            by_cases hlk : k < 24
            · have i1 : (k : Int) < 24 := by omega
              obtain ⟨q4, hq4⟩ : ∃ q : Nat, (k : Int) % 4 = (q : Int) := ⟨k % 4, by omega⟩
              have hq4l : q4 ≤ 3 := by omega
              obtain ⟨wh, kq, lg, ia, il, ic, hI, hAL⟩ := HAL.out
              have HA := Lib.hid hAL; clear hAL HAL
              have HOX := Lib.hid (fun W (hW : Below w3.heap.size w3 W) => own_below HA.out.own hW)
              have hs3 := HB3.out.size
              go_wp2_with (at_builtin; refine wpList_append_own (o := ⟨some 53, _, _, _, _, _⟩) _ rfl (.tmp 25) (.tmp 52) 31 rfl w.heap.size 41 i0 (.agg #[.int .i64 0, .int .i64 0, .int .i64 0, .int .u8 0, .slice none 0 0]) 5 56 Tryz.underlying31 HI.out HZ0.out HZ1.out HZ2.out rfl (by decide) _ k (acells wh kq lg ia il ic k) rfl (HOX.out _ (((Below.refl _ w3).alloc (Nat.le_refl _) _).alloc (by simp) _)) ⟨w3.heap.size + 1, 0, none⟩ 1 1 [.int .i64 ((k : Int) % 5), .int .i64 ((q4 : Int) - 1 + (k : Int) / 20), .int .i64 ((k : Int) % 3), .int .u8 0, .slice (some ⟨w3.heap.size, 0, none⟩) q4 3] rfl rfl (cell_five _ _ _ _ _ _ _ _ (by simp)) (ask_ones _ _ _ _ _ _) (by unfold maxLen; omega) (by omega) (by simp; omega) ?_; intro v9 w9 hown9 hgrow9 _; have HG9 := Lib.hid hgrow9; have HO9 := Lib.hid hown9; clear hown9 hgrow9)
              obtain ⟨a9, c9, e9⟩ := slice_own HO9.out
              subst e9
              have HAL9 := Lib.hid (AlX.push (vs := [(k : Int) % 3, ((k : Int) + 1 + (k : Int) / 6) % 4, 2 - (q4 : Int)]) HA.out HO9.out (((Below.refl _ w3).alloc (Nat.le_refl _) _).alloc (by simp) _) HG9.out (heap_two _ _ _) (by simp; omega) (by omega))
              have HB9 := Lib.hid (((HB3.out.alloc hs3 _).alloc (by simp; omega) _).grown HG9.out (by simp; omega) (fun j hj => (HA.out.own.lt j hj).1))
              clear HG9 HO9 HOX HA HB3
              go_wp2_with fail
              go_roundw
              case rel =>
                first
                | exact ⟨k + 1, a9, c9, by omega, by go_num, rfl, HAL9.out, HB9.out⟩
                | (repeat apply Exists.intro
                   exact ⟨⟨k + 1, a9, c9, by omega, by go_num, rfl, HAL9.out, HB9.out⟩, rfl⟩)
              case measure => simp [intOf]; omega
            · obtain rfl : k = 24 := by omega
              obtain ⟨wh, kq, lg, ia, il, ic, hI, hAL⟩ := HAL.out
              have HA := Lib.hid hAL; clear hAL HAL
              go_wp2_with fail
              refine (cacheAsks_any n r a 24 c wh kq lg (fun _ => 0) (fun i => some ⟨ia i, 0, none⟩) il ic hI (by omega) _ HA.out.as).mono ?_
              rintro e w4 ⟨rfl, hB4⟩
              have HB4 := Lib.hid (HB3.out.trans (hB4.mono HB3.out.size)); have HA4 := Lib.hid (HA.out.same hB4); clear hB4
              go_wp2_with fail
              refine (cacheAsks_any 6 r a 24 c wh kq lg (fun _ => 0) (fun i => some ⟨ia i, 0, none⟩) il ic hI (by omega) _ HA4.out.as).mono ?_
              rintro e w5 ⟨rfl, hB5⟩
              have HB5 := Lib.hid (HB4.out.trans (hB5.mono HB4.out.size)); clear hB5 HA HA4 HB4 HB3
              go_wp2_with fail
              go_roundw
              case rel =>
                first
                | exact ⟨r + 1, by omega, by omega, rfl, HB5.out⟩
                | (repeat apply Exists.intro
                   exact ⟨⟨r + 1, by omega, by omega, rfl, HB5.out⟩, rfl⟩)
              case measure => simp [intOf]; omega
        · obtain rfl : r = 5 := by omega
          go_wp2_with fail
          go_roundw
          case rel =>
            first
            | exact ⟨n + 1, by omega, by omega, rfl, HB2.out⟩
            | (repeat apply Exists.intro
               exact ⟨⟨n + 1, by omega, by omega, rfl, HB2.out⟩, rfl⟩)
          case measure => simp [intOf]; omega
    · obtain rfl : n = 4 := by omega
      go_wp2_with fail
      go_loopw [5] (fun v wr => ∃ rm : Nat, 1 ≤ rm ∧ rm ≤ 5 ∧ v = .int .i64 (rm : Nat) ∧ Below w.heap.size w wr) (fun v _ => 5 - (intOf v).toNat)
      case atStart => exact ⟨1, by omega, by omega, rfl, HB1.out⟩
      case round =>
        obtain ⟨w2, rfl⟩ : ∃ w2 : World, w2 = wr := ⟨_, rfl⟩
        obtain ⟨rm, hr1, hr2, rfl, hB⟩ := hrel
        have HB2 := Lib.hid hB; clear hB
        by_cases hlr : rm < 5
        · have i0' : (rm : Int) < 5 := by omega
          go_wp2_with fail
          go_loopw [6] (fun v wr => ∃ tn : Nat, tn ≤ 6 ∧ v = .int .i64 (tn : Nat) ∧ Below w.heap.size w wr) (fun v _ => 6 - (intOf v).toNat)
          case atStart => exact ⟨0, by omega, rfl, HB2.out⟩
          case round =>
            obtain ⟨w3, rfl⟩ : ∃ w3 : World, w3 = wr := ⟨_, rfl⟩
            obtain ⟨tn, ht, rfl, hB⟩ := hrel
            have HB3 := Lib.hid hB; clear hB
            by_cases hlt' : tn < 6
            · have i1' : (tn : Int) < 6 := by omega
              go_wp2_with fail
              go_loopw [7, 8] (fun s t wr => ∃ (k : Nat) (a : Option Addr) (c : Nat), k ≤ 20 ∧ t = .int .i64 (k : Nat) ∧ s = .slice a k c ∧ AlX wr w.heap.size a k c ∧ Below w.heap.size w wr) (fun _ t _ => 20 - (intOf t).toNat)
              case atStart => exact ⟨0, none, 0, by omega, rfl, rfl, al_nil _ _, HB3.out⟩
              case round =>
                obtain ⟨w4, rfl⟩ : ∃ w4 : World, w4 = wr := ⟨_, rfl⟩
                obtain ⟨k, a, c, hk, rfl, rfl, hal, hB⟩ := hrel
                have HAL := Lib.hid hal; have HB4 := Lib.hid hB; clear hB hal
                obtain ⟨wh, kq, lg, ia, il, ic, hI, hAL⟩ := HAL.out
                have HA := Lib.hid hAL; clear hAL HAL
                have hs4 := HB4.out.size
                by_cases hlk : k < 20
                · have i2 : (k : Int) < 20 := by omega
                  obtain ⟨t1, ht1⟩ : ∃ t1, t1 = 1 + tn := ⟨_, rfl⟩
                  have m0 : 1 + (tn : Int) = (t1 : Int) := by omega
                  obtain ⟨p1, hp1⟩ : ∃ p, p = k * t1 := ⟨_, rfl⟩
                  have m1 : (k : Int) * (t1 : Int) = ((p1 : Nat) : Int) := by rw [hp1]; exact (Int.natCast_mul k t1).symm
                  have b1 : p1 ≤ 140 := by rw [hp1]; exact Nat.mul_le_mul (show k ≤ 20 by omega) (show t1 ≤ 7 by omega)
                  obtain ⟨p2, hp2⟩ : ∃ p, p = k * k := ⟨_, rfl⟩
                  have m2 : (k : Int) * (k : Int) = ((p2 : Nat) : Int) := by rw [hp2]; exact (Int.natCast_mul k k).symm
                  have b2 : p2 ≤ 400 := by rw [hp2]; exact Nat.mul_le_mul (show k ≤ 20 by omega) (show k ≤ 20 by omega)
                  obtain ⟨p3, hp3⟩ : ∃ p, p = p2 * tn := ⟨_, rfl⟩
                  have m3 : (p2 : Int) * (tn : Int) = ((p3 : Nat) : Int) := by rw [hp3]; exact (Int.natCast_mul p2 tn).symm
                  have b3 : p3 ≤ 2400 := by rw [hp3]; exact Nat.mul_le_mul b2 (show tn ≤ 6 by omega)
                  obtain ⟨p4, hp4⟩ : ∃ p, p = p1 + p3 := ⟨_, rfl⟩
                  have m4 : (p1 : Int) + (p3 : Int) = ((p4 : Nat) : Int) := by omega
                  have b4 : p4 ≤ 3000 := by omega
                  obtain ⟨md, hmd⟩ : ∃ md, md = rm + 1 := ⟨_, rfl⟩
                  have m5 : (rm : Int) + 1 = ((md : Nat) : Int) := by omega
                  have b5 : ¬ (md : Int) = 0 := by omega
                  have b6 : ¬ md = 0 := by omega
                  obtain ⟨q, hq⟩ : ∃ q : Nat, q = p4 % md := ⟨_, rfl⟩
                  have m6 : (p4 : Int) % (md : Int) = ((q : Nat) : Int) := by rw [hq]; exact (Int.natCast_emod p4 md).symm
                  have m7 : (p4 : Int).tmod (md : Int) = ((q : Nat) : Int) := by rw [hq]; rfl
                  have HOX := Lib.hid (fun W (hW : Below w4.heap.size w4 W) => own_below HA.out.own hW)
                  clear hp1 hp2 hp3 hp4 hmd hq ht1
                  go_wp2_with (at_builtin; refine wpList_append_own (o := ⟨some 96, _, _, _, _, _⟩) _ rfl (.tmp 77) (.tmp 95) 31 rfl w.heap.size 41 i0 (.agg #[.int .i64 0, .int .i64 0, .int .i64 0, .int .u8 0, .slice none 0 0]) 5 56 Tryz.underlying31 HI.out HZ0.out HZ1.out HZ2.out rfl (by decide) _ k (acells wh kq lg ia il ic k) rfl (HOX.out _ (((Below.refl _ w4).alloc (Nat.le_refl _) _).alloc (by simp) _)) ⟨w4.heap.size + 1, 0, none⟩ 1 1 [.int .i64 ((k : Int) / 9), .int .i64 1, .int .i64 1, .int .u8 0, .slice (some ⟨w4.heap.size, 0, none⟩) 1 1] rfl rfl (cell_five _ _ _ _ _ _ _ _ (by simp)) (ask_ones _ _ _ _ _ _) (by unfold maxLen; omega) (by omega) (by simp; omega) ?_; intro v9 w9 hown9 hgrow9 _; have HG9 := Lib.hid hgrow9; have HO9 := Lib.hid hown9; clear hown9 hgrow9)
                  obtain ⟨a9, c9, e9⟩ := slice_own HO9.out
                  subst e9
                  have HAL9 := Lib.hid (AlX.push (vs := [(q : Int)]) HA.out HO9.out (((Below.refl _ w4).alloc (Nat.le_refl _) _).alloc (by simp) _) HG9.out (heap_two _ _ _) (by simp) (by omega))
                  have HB9 := Lib.hid (((HB4.out.alloc hs4 _).alloc (by simp; omega) _).grown HG9.out (by simp; omega) (fun j hj => (HA.out.own.lt j hj).1))
                  refine ⟨?_, by simp [intOf]; omega⟩
                  first
                  | exact ⟨k + 1, a9, c9, by omega, by go_num, rfl, HAL9.out, HB9.out⟩
                  | (repeat apply Exists.intro
                     exact ⟨⟨k + 1, a9, c9, by omega, by go_num, rfl, HAL9.out, HB9.out⟩, rfl⟩)
                · obtain rfl : k = 20 := by omega
                  go_wp2_with fail
                  refine (cacheAsks_any 8 rm a 20 c wh kq lg (fun _ => 0) (fun i => some ⟨ia i, 0, none⟩) il ic hI (by omega) _ HA.out.as).mono ?_
                  rintro e w5 ⟨rfl, hB5⟩
                  have HB5 := Lib.hid (HB4.out.trans (hB5.mono HB4.out.size)); clear hB5 HA HB4
                  go_wp2_with fail
                  go_roundw
                  case rel =>
                    first
                    | exact ⟨tn + 1, by omega, by go_num, HB5.out⟩
                    | (repeat apply Exists.intro
                       exact ⟨⟨tn + 1, by omega, by go_num, HB5.out⟩, rfl⟩)
                  case measure => simp [intOf]; omega
            · obtain rfl : tn = 6 := by omega
              go_wp2_with fail
              go_roundw
              case rel =>
                first
                | exact ⟨rm + 1, by omega, by omega, by go_num, HB3.out⟩
                | (repeat apply Exists.intro
                   exact ⟨⟨rm + 1, by omega, by omega, by go_num, HB3.out⟩, rfl⟩)
              case measure => simp [intOf]; omega
        · obtain rfl : rm = 5 := by omega
          have HE0 := Lib.hid (show EndC w2.heap.size (w2.alloc (.cells #[.int .i64 255, .int .i64 64, .int .i64 256, .int .i64 1, .int .i64 1, .int .i64 65, .int .i64 0, .int .i64 1, .int .i64 1, .int .i64 0, .int .i64 (-1), .int .i64 5] 59)) from heap_alloc_new _ _)
          obtain ⟨Lb, hLb⟩ : ∃ Lb, Lb = w2.heap.size := ⟨_, rfl⟩
          rw [← hLb] at HE0
          have hsz2 := HB2.out.size
          go_wp2_with fail
          rw [← hLb]
          clear hLb
          go_loopw [10] (fun v wz => ∃ k : Nat, k ≤ 6 ∧ v = .int .i64 (k : Nat) ∧ EndC Lb wz ∧ Below w.heap.size w wz) (fun v _ => 6 - (intOf v).toNat)
          case atStart => exact ⟨0, by omega, rfl, HE0.out, HB2.out.alloc hsz2 _⟩
          case round =>
            obtain ⟨wz, rfl⟩ : ∃ wz : World, wz = wr := ⟨_, rfl⟩
            obtain ⟨k, hk, rfl, hE, hB⟩ := hrel
            have HE := Lib.hid hE; have HBz := Lib.hid hB; clear hE hB HE0
            have HES := Lib.hid (fun (W : World) (hW : W.heap[Lb]? = wz.heap[Lb]?) => (show EndC Lb W from hW.trans HE.out))
            rcases (show k = 0 ∨ k = 1 ∨ k = 2 ∨ k = 3 ∨ k = 4 ∨ k = 5 ∨ k = 6 by omega) with rfl | rfl | rfl | rfl | rfl | rfl | rfl
            · go_wp2_with fail
              refine wp_region_held_drew (S := fun W => W.heap[Lb]? = wz.heap[Lb]?) (by kernel_rfl) (rfl) (fun hHeld => ?_)
              refine wpAnyH_take (i := 0) (oi := ⟨some 115, _, _, _, _, none⟩) (v := (.slice (some ⟨Lb, 0, none⟩) 6 6)) rfl (by kernel_rfl) (by kernel_rfl) (by kernel_rfl) (fun _ _ _ h => h) (Or.inl ⟨by rfl, fun W hW => ?_⟩) (by assumption) ?_
              · go_simp
              simp only [Act.put, List.setIfInBounds_toArray, List.set_cons_zero, List.set_cons_succ]
              refine wpAnyH_take (i := 1) (oi := ⟨some 116, _, _, _, _, none⟩) (v := (.int .i64 0)) rfl (by kernel_rfl) (by kernel_rfl) (by kernel_rfl) (fun _ _ _ h => h) (Or.inl ⟨by rfl, fun W hW => ?_⟩) (by assumption) ?_
              · go_simp
              simp only [Act.put, List.setIfInBounds_toArray, List.set_cons_zero, List.set_cons_succ]
              refine wpAnyH_take (i := 2) (oi := ⟨some 117, _, _, _, _, none⟩) (v := (.pointer (some ⟨Lb, 0, none⟩))) rfl (by kernel_rfl) (by kernel_rfl) (by kernel_rfl) (fun _ _ _ h => h) (Or.inl ⟨by rfl, fun W hW => ?_⟩) (by assumption) ?_
              · go_simp
              simp only [Act.put, List.setIfInBounds_toArray, List.set_cons_zero, List.set_cons_succ]
              refine wpAnyH_take (i := 3) (oi := ⟨some 118, _, _, _, _, none⟩) (v := (.pointer (some ⟨Lb, 0, none⟩))) rfl (by kernel_rfl) (by kernel_rfl) (by kernel_rfl) (fun _ _ _ h => h) (Or.inl ⟨by rfl, fun W hW => ?_⟩) (by assumption) ?_
              · go_simp
              simp only [Act.put, List.setIfInBounds_toArray, List.set_cons_zero, List.set_cons_succ]
              refine wpAnyH_take (i := 4) (oi := ⟨some 119, _, _, _, _, none⟩) (v := (.int .i64 255)) rfl (by kernel_rfl) (by kernel_rfl) (by kernel_rfl) (fun _ _ _ h => h) (Or.inl ⟨by rfl, fun W hW => ?_⟩) (by assumption) ?_
              · have := (HES.out W hW).c 0 _ rfl; go_simp
              simp only [Act.put, List.setIfInBounds_toArray, List.set_cons_zero, List.set_cons_succ]
              refine wpAnyH_take (i := 5) (oi := ⟨some 120, _, _, _, _, none⟩) (v := (.slice (some ⟨Lb, 0, none⟩) 6 6)) rfl (by kernel_rfl) (by kernel_rfl) (by kernel_rfl) (fun _ _ _ h => h) (Or.inl ⟨by rfl, fun W hW => ?_⟩) (by assumption) ?_
              · go_simp
              simp only [Act.put, List.setIfInBounds_toArray, List.set_cons_zero, List.set_cons_succ]
              refine wpAnyH_take (i := 6) (oi := ⟨some 121, _, _, _, _, none⟩) (v := (.int .i64 0)) rfl (by kernel_rfl) (by kernel_rfl) (by kernel_rfl) (fun _ _ _ h => h) (Or.inl ⟨by rfl, fun W hW => ?_⟩) (by assumption) ?_
              · go_simp
              simp only [Act.put, List.setIfInBounds_toArray, List.set_cons_zero, List.set_cons_succ]
              refine wpAnyH_take (i := 7) (oi := ⟨some 122, _, _, _, _, none⟩) (v := (.pointer (some ⟨Lb, 0, none⟩))) rfl (by kernel_rfl) (by kernel_rfl) (by kernel_rfl) (fun _ _ _ h => h) (Or.inl ⟨by rfl, fun W hW => ?_⟩) (by assumption) ?_
              · go_simp
              simp only [Act.put, List.setIfInBounds_toArray, List.set_cons_zero, List.set_cons_succ]
              refine wpAnyH_take (i := 8) (oi := ⟨some 123, _, _, _, _, none⟩) (v := (.pointer (some ⟨Lb, 1, none⟩))) rfl (by kernel_rfl) (by kernel_rfl) (by kernel_rfl) (fun _ _ _ h => h) (Or.inl ⟨by rfl, fun W hW => ?_⟩) (by assumption) ?_
              · go_simp
              simp only [Act.put, List.setIfInBounds_toArray, List.set_cons_zero, List.set_cons_succ]
              refine wpAnyH_take (i := 9) (oi := ⟨some 124, _, _, _, _, none⟩) (v := (.int .i64 64)) rfl (by kernel_rfl) (by kernel_rfl) (by kernel_rfl) (fun _ _ _ h => h) (Or.inl ⟨by rfl, fun W hW => ?_⟩) (by assumption) ?_
              · have := (HES.out W hW).c 1 _ rfl; go_simp
              simp only [Act.put, List.setIfInBounds_toArray, List.set_cons_zero, List.set_cons_succ]
              refine wpAnyH_ready (rs := [10]) (by kernel_rfl) (by simp) (AllReadyH.cons rfl (fun KK hKK => ?_) AllReadyH.nil)
              go_simp
              refine (cn_yes _).mono ?_
              rintro e w8 ⟨p8, rfl, hB8'⟩
              dsimp only
              have hB8 : Below wz.heap.size wz w8 := (below_dr (Below.refl _ wz) 1).trans hB8'
              refine hKK.out _ _ (hB8.block _ (Array.getElem?_eq_some_iff.1 HE.out).1) (fun hHeld => ?_)
              clear hKK KK
              try simp only [Act.put, List.setIfInBounds_toArray, List.set_cons_zero, List.set_cons_succ]
              refine wpAnyH_take (i := 11) (oi := ⟨some 114, _, _, _, _, none⟩) (v := (.tuple #[.pointer p8, .int .i64 0])) rfl (by kernel_rfl) (by kernel_rfl) (by kernel_rfl) (fun _ _ _ h => h) (Or.inl ⟨by rfl, fun W hW => ?_⟩) (by assumption) ?_
              · go_simp
              simp only [Act.put, List.setIfInBounds_toArray, List.set_cons_zero, List.set_cons_succ]
              refine wpAnyH_take (i := 12) (oi := ⟨some 126, _, _, _, _, none⟩) (v := (.pointer p8)) rfl (by kernel_rfl) (by kernel_rfl) (by kernel_rfl) (fun _ _ _ h => h) (Or.inl ⟨by rfl, fun W hW => ?_⟩) (by assumption) ?_
              · go_simp
              simp only [Act.put, List.setIfInBounds_toArray, List.set_cons_zero, List.set_cons_succ]
              refine wpAnyH_take (i := 13) (oi := ⟨some 127, _, _, _, _, none⟩) (v := (.int .i64 0)) rfl (by kernel_rfl) (by kernel_rfl) (by kernel_rfl) (fun _ _ _ h => h) (Or.inl ⟨by rfl, fun W hW => ?_⟩) (by assumption) ?_
              · go_simp
              simp only [Act.put, List.setIfInBounds_toArray, List.set_cons_zero, List.set_cons_succ]
              refine wpAnyH_take (i := 14) (oi := ⟨some 11, _, _, _, _, none⟩) (v := (.pointer p8)) rfl (by kernel_rfl) (by kernel_rfl) (by kernel_rfl) (fun _ _ _ h => h) (Or.inl ⟨by rfl, fun W hW => ?_⟩) (by assumption) ?_
              · go_simp
              simp only [Act.put, List.setIfInBounds_toArray, List.set_cons_zero, List.set_cons_succ]
              refine wpAnyH_take (i := 15) (oi := ⟨some 12, _, _, _, _, none⟩) (v := (.int .i64 0)) rfl (by kernel_rfl) (by kernel_rfl) (by kernel_rfl) (fun _ _ _ h => h) (Or.inl ⟨by rfl, fun W hW => ?_⟩) (by assumption) ?_
              · go_simp
              simp only [Act.put, List.setIfInBounds_toArray, List.set_cons_zero, List.set_cons_succ]
              refine wpAnyH_done (by kernel_rfl) ?_ _
              have HE8 := Lib.hid (HE.out.same hB8); have HB8 := Lib.hid (HBz.out.trans (hB8.mono HBz.out.size))
              clear hHeld hB8 hB8'
              go_wp2_with fail
              go_roundw
              case rel =>
                first
                | exact ⟨0 + 1, by omega, by first | rfl | go_num, HE8.out, HB8.out⟩
                | (repeat apply Exists.intro
                   exact ⟨⟨0 + 1, by omega, by first | rfl | go_num, HE8.out, HB8.out⟩, rfl⟩)
              case measure => simp [intOf]
            · go_wp2_with fail
              refine wp_region_held_drew (S := fun W => W.heap[Lb]? = wz.heap[Lb]?) (by kernel_rfl) (rfl) (fun hHeld => ?_)
              refine wpAnyH_take (i := 0) (oi := ⟨some 115, _, _, _, _, none⟩) (v := (.slice (some ⟨Lb, 0, none⟩) 6 6)) rfl (by kernel_rfl) (by kernel_rfl) (by kernel_rfl) (fun _ _ _ h => h) (Or.inl ⟨by rfl, fun W hW => ?_⟩) (by assumption) ?_
              · go_simp
              simp only [Act.put, List.setIfInBounds_toArray, List.set_cons_zero, List.set_cons_succ]
              refine wpAnyH_take (i := 1) (oi := ⟨some 116, _, _, _, _, none⟩) (v := (.int .i64 1)) rfl (by kernel_rfl) (by kernel_rfl) (by kernel_rfl) (fun _ _ _ h => h) (Or.inl ⟨by rfl, fun W hW => ?_⟩) (by assumption) ?_
              · go_simp
              simp only [Act.put, List.setIfInBounds_toArray, List.set_cons_zero, List.set_cons_succ]
              refine wpAnyH_take (i := 2) (oi := ⟨some 117, _, _, _, _, none⟩) (v := (.pointer (some ⟨Lb, 2, none⟩))) rfl (by kernel_rfl) (by kernel_rfl) (by kernel_rfl) (fun _ _ _ h => h) (Or.inl ⟨by rfl, fun W hW => ?_⟩) (by assumption) ?_
              · go_simp
              simp only [Act.put, List.setIfInBounds_toArray, List.set_cons_zero, List.set_cons_succ]
              refine wpAnyH_take (i := 3) (oi := ⟨some 118, _, _, _, _, none⟩) (v := (.pointer (some ⟨Lb, 2, none⟩))) rfl (by kernel_rfl) (by kernel_rfl) (by kernel_rfl) (fun _ _ _ h => h) (Or.inl ⟨by rfl, fun W hW => ?_⟩) (by assumption) ?_
              · go_simp
              simp only [Act.put, List.setIfInBounds_toArray, List.set_cons_zero, List.set_cons_succ]
              refine wpAnyH_take (i := 4) (oi := ⟨some 119, _, _, _, _, none⟩) (v := (.int .i64 256)) rfl (by kernel_rfl) (by kernel_rfl) (by kernel_rfl) (fun _ _ _ h => h) (Or.inl ⟨by rfl, fun W hW => ?_⟩) (by assumption) ?_
              · have := (HES.out W hW).c 2 _ rfl; go_simp
              simp only [Act.put, List.setIfInBounds_toArray, List.set_cons_zero, List.set_cons_succ]
              refine wpAnyH_take (i := 5) (oi := ⟨some 120, _, _, _, _, none⟩) (v := (.slice (some ⟨Lb, 0, none⟩) 6 6)) rfl (by kernel_rfl) (by kernel_rfl) (by kernel_rfl) (fun _ _ _ h => h) (Or.inl ⟨by rfl, fun W hW => ?_⟩) (by assumption) ?_
              · go_simp
              simp only [Act.put, List.setIfInBounds_toArray, List.set_cons_zero, List.set_cons_succ]
              refine wpAnyH_take (i := 6) (oi := ⟨some 121, _, _, _, _, none⟩) (v := (.int .i64 1)) rfl (by kernel_rfl) (by kernel_rfl) (by kernel_rfl) (fun _ _ _ h => h) (Or.inl ⟨by rfl, fun W hW => ?_⟩) (by assumption) ?_
              · go_simp
              simp only [Act.put, List.setIfInBounds_toArray, List.set_cons_zero, List.set_cons_succ]
              refine wpAnyH_take (i := 7) (oi := ⟨some 122, _, _, _, _, none⟩) (v := (.pointer (some ⟨Lb, 2, none⟩))) rfl (by kernel_rfl) (by kernel_rfl) (by kernel_rfl) (fun _ _ _ h => h) (Or.inl ⟨by rfl, fun W hW => ?_⟩) (by assumption) ?_
              · go_simp
              simp only [Act.put, List.setIfInBounds_toArray, List.set_cons_zero, List.set_cons_succ]
              refine wpAnyH_take (i := 8) (oi := ⟨some 123, _, _, _, _, none⟩) (v := (.pointer (some ⟨Lb, 3, none⟩))) rfl (by kernel_rfl) (by kernel_rfl) (by kernel_rfl) (fun _ _ _ h => h) (Or.inl ⟨by rfl, fun W hW => ?_⟩) (by assumption) ?_
              · go_simp
              simp only [Act.put, List.setIfInBounds_toArray, List.set_cons_zero, List.set_cons_succ]
              refine wpAnyH_take (i := 9) (oi := ⟨some 124, _, _, _, _, none⟩) (v := (.int .i64 1)) rfl (by kernel_rfl) (by kernel_rfl) (by kernel_rfl) (fun _ _ _ h => h) (Or.inl ⟨by rfl, fun W hW => ?_⟩) (by assumption) ?_
              · have := (HES.out W hW).c 3 _ rfl; go_simp
              simp only [Act.put, List.setIfInBounds_toArray, List.set_cons_zero, List.set_cons_succ]
              refine wpAnyH_ready (rs := [10]) (by kernel_rfl) (by simp) (AllReadyH.cons rfl (fun KK hKK => ?_) AllReadyH.nil)
              go_simp
              refine (cn_no 256 1 (by omega) _).mono ?_
              rintro e w8 ⟨p8, rfl, hB8'⟩
              dsimp only
              have hB8 : Below wz.heap.size wz w8 := (below_dr (Below.refl _ wz) 1).trans hB8'
              refine hKK.out _ _ (hB8.block _ (Array.getElem?_eq_some_iff.1 HE.out).1) (fun hHeld => ?_)
              clear hKK KK
              try simp only [Act.put, List.setIfInBounds_toArray, List.set_cons_zero, List.set_cons_succ]
              refine wpAnyH_take (i := 11) (oi := ⟨some 114, _, _, _, _, none⟩) (v := (.tuple #[.pointer p8, .int .i64 2])) rfl (by kernel_rfl) (by kernel_rfl) (by kernel_rfl) (fun _ _ _ h => h) (Or.inl ⟨by rfl, fun W hW => ?_⟩) (by assumption) ?_
              · go_simp
              simp only [Act.put, List.setIfInBounds_toArray, List.set_cons_zero, List.set_cons_succ]
              refine wpAnyH_take (i := 12) (oi := ⟨some 126, _, _, _, _, none⟩) (v := (.pointer p8)) rfl (by kernel_rfl) (by kernel_rfl) (by kernel_rfl) (fun _ _ _ h => h) (Or.inl ⟨by rfl, fun W hW => ?_⟩) (by assumption) ?_
              · go_simp
              simp only [Act.put, List.setIfInBounds_toArray, List.set_cons_zero, List.set_cons_succ]
              refine wpAnyH_take (i := 13) (oi := ⟨some 127, _, _, _, _, none⟩) (v := (.int .i64 2)) rfl (by kernel_rfl) (by kernel_rfl) (by kernel_rfl) (fun _ _ _ h => h) (Or.inl ⟨by rfl, fun W hW => ?_⟩) (by assumption) ?_
              · go_simp
              simp only [Act.put, List.setIfInBounds_toArray, List.set_cons_zero, List.set_cons_succ]
              refine wpAnyH_take (i := 14) (oi := ⟨some 11, _, _, _, _, none⟩) (v := (.pointer p8)) rfl (by kernel_rfl) (by kernel_rfl) (by kernel_rfl) (fun _ _ _ h => h) (Or.inl ⟨by rfl, fun W hW => ?_⟩) (by assumption) ?_
              · go_simp
              simp only [Act.put, List.setIfInBounds_toArray, List.set_cons_zero, List.set_cons_succ]
              refine wpAnyH_take (i := 15) (oi := ⟨some 12, _, _, _, _, none⟩) (v := (.int .i64 2)) rfl (by kernel_rfl) (by kernel_rfl) (by kernel_rfl) (fun _ _ _ h => h) (Or.inl ⟨by rfl, fun W hW => ?_⟩) (by assumption) ?_
              · go_simp
              simp only [Act.put, List.setIfInBounds_toArray, List.set_cons_zero, List.set_cons_succ]
              refine wpAnyH_done (by kernel_rfl) ?_ _
              have HE8 := Lib.hid (HE.out.same hB8); have HB8 := Lib.hid (HBz.out.trans (hB8.mono HBz.out.size))
              clear hHeld hB8 hB8'
              go_wp2_with fail
              go_roundw
              case rel =>
                first
                | exact ⟨1 + 1, by omega, by first | rfl | go_num, HE8.out, HB8.out⟩
                | (repeat apply Exists.intro
                   exact ⟨⟨1 + 1, by omega, by first | rfl | go_num, HE8.out, HB8.out⟩, rfl⟩)
              case measure => simp [intOf]
            · go_wp2_with fail
              refine wp_region_held_drew (S := fun W => W.heap[Lb]? = wz.heap[Lb]?) (by kernel_rfl) (rfl) (fun hHeld => ?_)
              refine wpAnyH_take (i := 0) (oi := ⟨some 115, _, _, _, _, none⟩) (v := (.slice (some ⟨Lb, 0, none⟩) 6 6)) rfl (by kernel_rfl) (by kernel_rfl) (by kernel_rfl) (fun _ _ _ h => h) (Or.inl ⟨by rfl, fun W hW => ?_⟩) (by assumption) ?_
              · go_simp
              simp only [Act.put, List.setIfInBounds_toArray, List.set_cons_zero, List.set_cons_succ]
              refine wpAnyH_take (i := 1) (oi := ⟨some 116, _, _, _, _, none⟩) (v := (.int .i64 2)) rfl (by kernel_rfl) (by kernel_rfl) (by kernel_rfl) (fun _ _ _ h => h) (Or.inl ⟨by rfl, fun W hW => ?_⟩) (by assumption) ?_
              · go_simp
              simp only [Act.put, List.setIfInBounds_toArray, List.set_cons_zero, List.set_cons_succ]
              refine wpAnyH_take (i := 2) (oi := ⟨some 117, _, _, _, _, none⟩) (v := (.pointer (some ⟨Lb, 4, none⟩))) rfl (by kernel_rfl) (by kernel_rfl) (by kernel_rfl) (fun _ _ _ h => h) (Or.inl ⟨by rfl, fun W hW => ?_⟩) (by assumption) ?_
              · go_simp
              simp only [Act.put, List.setIfInBounds_toArray, List.set_cons_zero, List.set_cons_succ]
              refine wpAnyH_take (i := 3) (oi := ⟨some 118, _, _, _, _, none⟩) (v := (.pointer (some ⟨Lb, 4, none⟩))) rfl (by kernel_rfl) (by kernel_rfl) (by kernel_rfl) (fun _ _ _ h => h) (Or.inl ⟨by rfl, fun W hW => ?_⟩) (by assumption) ?_
              · go_simp
              simp only [Act.put, List.setIfInBounds_toArray, List.set_cons_zero, List.set_cons_succ]
              refine wpAnyH_take (i := 4) (oi := ⟨some 119, _, _, _, _, none⟩) (v := (.int .i64 1)) rfl (by kernel_rfl) (by kernel_rfl) (by kernel_rfl) (fun _ _ _ h => h) (Or.inl ⟨by rfl, fun W hW => ?_⟩) (by assumption) ?_
              · have := (HES.out W hW).c 4 _ rfl; go_simp
              simp only [Act.put, List.setIfInBounds_toArray, List.set_cons_zero, List.set_cons_succ]
              refine wpAnyH_take (i := 5) (oi := ⟨some 120, _, _, _, _, none⟩) (v := (.slice (some ⟨Lb, 0, none⟩) 6 6)) rfl (by kernel_rfl) (by kernel_rfl) (by kernel_rfl) (fun _ _ _ h => h) (Or.inl ⟨by rfl, fun W hW => ?_⟩) (by assumption) ?_
              · go_simp
              simp only [Act.put, List.setIfInBounds_toArray, List.set_cons_zero, List.set_cons_succ]
              refine wpAnyH_take (i := 6) (oi := ⟨some 121, _, _, _, _, none⟩) (v := (.int .i64 2)) rfl (by kernel_rfl) (by kernel_rfl) (by kernel_rfl) (fun _ _ _ h => h) (Or.inl ⟨by rfl, fun W hW => ?_⟩) (by assumption) ?_
              · go_simp
              simp only [Act.put, List.setIfInBounds_toArray, List.set_cons_zero, List.set_cons_succ]
              refine wpAnyH_take (i := 7) (oi := ⟨some 122, _, _, _, _, none⟩) (v := (.pointer (some ⟨Lb, 4, none⟩))) rfl (by kernel_rfl) (by kernel_rfl) (by kernel_rfl) (fun _ _ _ h => h) (Or.inl ⟨by rfl, fun W hW => ?_⟩) (by assumption) ?_
              · go_simp
              simp only [Act.put, List.setIfInBounds_toArray, List.set_cons_zero, List.set_cons_succ]
              refine wpAnyH_take (i := 8) (oi := ⟨some 123, _, _, _, _, none⟩) (v := (.pointer (some ⟨Lb, 5, none⟩))) rfl (by kernel_rfl) (by kernel_rfl) (by kernel_rfl) (fun _ _ _ h => h) (Or.inl ⟨by rfl, fun W hW => ?_⟩) (by assumption) ?_
              · go_simp
              simp only [Act.put, List.setIfInBounds_toArray, List.set_cons_zero, List.set_cons_succ]
              refine wpAnyH_take (i := 9) (oi := ⟨some 124, _, _, _, _, none⟩) (v := (.int .i64 65)) rfl (by kernel_rfl) (by kernel_rfl) (by kernel_rfl) (fun _ _ _ h => h) (Or.inl ⟨by rfl, fun W hW => ?_⟩) (by assumption) ?_
              · have := (HES.out W hW).c 5 _ rfl; go_simp
              simp only [Act.put, List.setIfInBounds_toArray, List.set_cons_zero, List.set_cons_succ]
              refine wpAnyH_ready (rs := [10]) (by kernel_rfl) (by simp) (AllReadyH.cons rfl (fun KK hKK => ?_) AllReadyH.nil)
              go_simp
              refine (cn_no 1 65 (by omega) _).mono ?_
              rintro e w8 ⟨p8, rfl, hB8'⟩
              dsimp only
              have hB8 : Below wz.heap.size wz w8 := (below_dr (Below.refl _ wz) 1).trans hB8'
              refine hKK.out _ _ (hB8.block _ (Array.getElem?_eq_some_iff.1 HE.out).1) (fun hHeld => ?_)
              clear hKK KK
              try simp only [Act.put, List.setIfInBounds_toArray, List.set_cons_zero, List.set_cons_succ]
              refine wpAnyH_take (i := 11) (oi := ⟨some 114, _, _, _, _, none⟩) (v := (.tuple #[.pointer p8, .int .i64 2])) rfl (by kernel_rfl) (by kernel_rfl) (by kernel_rfl) (fun _ _ _ h => h) (Or.inl ⟨by rfl, fun W hW => ?_⟩) (by assumption) ?_
              · go_simp
              simp only [Act.put, List.setIfInBounds_toArray, List.set_cons_zero, List.set_cons_succ]
              refine wpAnyH_take (i := 12) (oi := ⟨some 126, _, _, _, _, none⟩) (v := (.pointer p8)) rfl (by kernel_rfl) (by kernel_rfl) (by kernel_rfl) (fun _ _ _ h => h) (Or.inl ⟨by rfl, fun W hW => ?_⟩) (by assumption) ?_
              · go_simp
              simp only [Act.put, List.setIfInBounds_toArray, List.set_cons_zero, List.set_cons_succ]
              refine wpAnyH_take (i := 13) (oi := ⟨some 127, _, _, _, _, none⟩) (v := (.int .i64 2)) rfl (by kernel_rfl) (by kernel_rfl) (by kernel_rfl) (fun _ _ _ h => h) (Or.inl ⟨by rfl, fun W hW => ?_⟩) (by assumption) ?_
              · go_simp
              simp only [Act.put, List.setIfInBounds_toArray, List.set_cons_zero, List.set_cons_succ]
              refine wpAnyH_take (i := 14) (oi := ⟨some 11, _, _, _, _, none⟩) (v := (.pointer p8)) rfl (by kernel_rfl) (by kernel_rfl) (by kernel_rfl) (fun _ _ _ h => h) (Or.inl ⟨by rfl, fun W hW => ?_⟩) (by assumption) ?_
              · go_simp
              simp only [Act.put, List.setIfInBounds_toArray, List.set_cons_zero, List.set_cons_succ]
              refine wpAnyH_take (i := 15) (oi := ⟨some 12, _, _, _, _, none⟩) (v := (.int .i64 2)) rfl (by kernel_rfl) (by kernel_rfl) (by kernel_rfl) (fun _ _ _ h => h) (Or.inl ⟨by rfl, fun W hW => ?_⟩) (by assumption) ?_
              · go_simp
              simp only [Act.put, List.setIfInBounds_toArray, List.set_cons_zero, List.set_cons_succ]
              refine wpAnyH_done (by kernel_rfl) ?_ _
              have HE8 := Lib.hid (HE.out.same hB8); have HB8 := Lib.hid (HBz.out.trans (hB8.mono HBz.out.size))
              clear hHeld hB8 hB8'
              go_wp2_with fail
              go_roundw
              case rel =>
                first
                | exact ⟨2 + 1, by omega, by first | rfl | go_num, HE8.out, HB8.out⟩
                | (repeat apply Exists.intro
                   exact ⟨⟨2 + 1, by omega, by first | rfl | go_num, HE8.out, HB8.out⟩, rfl⟩)
              case measure => simp [intOf]
            · go_wp2_with fail
              refine wp_region_held_drew (S := fun W => W.heap[Lb]? = wz.heap[Lb]?) (by kernel_rfl) (rfl) (fun hHeld => ?_)
              refine wpAnyH_take (i := 0) (oi := ⟨some 115, _, _, _, _, none⟩) (v := (.slice (some ⟨Lb, 0, none⟩) 6 6)) rfl (by kernel_rfl) (by kernel_rfl) (by kernel_rfl) (fun _ _ _ h => h) (Or.inl ⟨by rfl, fun W hW => ?_⟩) (by assumption) ?_
              · go_simp
              simp only [Act.put, List.setIfInBounds_toArray, List.set_cons_zero, List.set_cons_succ]
              refine wpAnyH_take (i := 1) (oi := ⟨some 116, _, _, _, _, none⟩) (v := (.int .i64 3)) rfl (by kernel_rfl) (by kernel_rfl) (by kernel_rfl) (fun _ _ _ h => h) (Or.inl ⟨by rfl, fun W hW => ?_⟩) (by assumption) ?_
              · go_simp
              simp only [Act.put, List.setIfInBounds_toArray, List.set_cons_zero, List.set_cons_succ]
              refine wpAnyH_take (i := 2) (oi := ⟨some 117, _, _, _, _, none⟩) (v := (.pointer (some ⟨Lb, 6, none⟩))) rfl (by kernel_rfl) (by kernel_rfl) (by kernel_rfl) (fun _ _ _ h => h) (Or.inl ⟨by rfl, fun W hW => ?_⟩) (by assumption) ?_
              · go_simp
              simp only [Act.put, List.setIfInBounds_toArray, List.set_cons_zero, List.set_cons_succ]
              refine wpAnyH_take (i := 3) (oi := ⟨some 118, _, _, _, _, none⟩) (v := (.pointer (some ⟨Lb, 6, none⟩))) rfl (by kernel_rfl) (by kernel_rfl) (by kernel_rfl) (fun _ _ _ h => h) (Or.inl ⟨by rfl, fun W hW => ?_⟩) (by assumption) ?_
              · go_simp
              simp only [Act.put, List.setIfInBounds_toArray, List.set_cons_zero, List.set_cons_succ]
              refine wpAnyH_take (i := 4) (oi := ⟨some 119, _, _, _, _, none⟩) (v := (.int .i64 0)) rfl (by kernel_rfl) (by kernel_rfl) (by kernel_rfl) (fun _ _ _ h => h) (Or.inl ⟨by rfl, fun W hW => ?_⟩) (by assumption) ?_
              · have := (HES.out W hW).c 6 _ rfl; go_simp
              simp only [Act.put, List.setIfInBounds_toArray, List.set_cons_zero, List.set_cons_succ]
              refine wpAnyH_take (i := 5) (oi := ⟨some 120, _, _, _, _, none⟩) (v := (.slice (some ⟨Lb, 0, none⟩) 6 6)) rfl (by kernel_rfl) (by kernel_rfl) (by kernel_rfl) (fun _ _ _ h => h) (Or.inl ⟨by rfl, fun W hW => ?_⟩) (by assumption) ?_
              · go_simp
              simp only [Act.put, List.setIfInBounds_toArray, List.set_cons_zero, List.set_cons_succ]
              refine wpAnyH_take (i := 6) (oi := ⟨some 121, _, _, _, _, none⟩) (v := (.int .i64 3)) rfl (by kernel_rfl) (by kernel_rfl) (by kernel_rfl) (fun _ _ _ h => h) (Or.inl ⟨by rfl, fun W hW => ?_⟩) (by assumption) ?_
              · go_simp
              simp only [Act.put, List.setIfInBounds_toArray, List.set_cons_zero, List.set_cons_succ]
              refine wpAnyH_take (i := 7) (oi := ⟨some 122, _, _, _, _, none⟩) (v := (.pointer (some ⟨Lb, 6, none⟩))) rfl (by kernel_rfl) (by kernel_rfl) (by kernel_rfl) (fun _ _ _ h => h) (Or.inl ⟨by rfl, fun W hW => ?_⟩) (by assumption) ?_
              · go_simp
              simp only [Act.put, List.setIfInBounds_toArray, List.set_cons_zero, List.set_cons_succ]
              refine wpAnyH_take (i := 8) (oi := ⟨some 123, _, _, _, _, none⟩) (v := (.pointer (some ⟨Lb, 7, none⟩))) rfl (by kernel_rfl) (by kernel_rfl) (by kernel_rfl) (fun _ _ _ h => h) (Or.inl ⟨by rfl, fun W hW => ?_⟩) (by assumption) ?_
              · go_simp
              simp only [Act.put, List.setIfInBounds_toArray, List.set_cons_zero, List.set_cons_succ]
              refine wpAnyH_take (i := 9) (oi := ⟨some 124, _, _, _, _, none⟩) (v := (.int .i64 1)) rfl (by kernel_rfl) (by kernel_rfl) (by kernel_rfl) (fun _ _ _ h => h) (Or.inl ⟨by rfl, fun W hW => ?_⟩) (by assumption) ?_
              · have := (HES.out W hW).c 7 _ rfl; go_simp
              simp only [Act.put, List.setIfInBounds_toArray, List.set_cons_zero, List.set_cons_succ]
              refine wpAnyH_ready (rs := [10]) (by kernel_rfl) (by simp) (AllReadyH.cons rfl (fun KK hKK => ?_) AllReadyH.nil)
              go_simp
              refine (cn_no 0 1 (by omega) _).mono ?_
              rintro e w8 ⟨p8, rfl, hB8'⟩
              dsimp only
              have hB8 : Below wz.heap.size wz w8 := (below_dr (Below.refl _ wz) 1).trans hB8'
              refine hKK.out _ _ (hB8.block _ (Array.getElem?_eq_some_iff.1 HE.out).1) (fun hHeld => ?_)
              clear hKK KK
              try simp only [Act.put, List.setIfInBounds_toArray, List.set_cons_zero, List.set_cons_succ]
              refine wpAnyH_take (i := 11) (oi := ⟨some 114, _, _, _, _, none⟩) (v := (.tuple #[.pointer p8, .int .i64 2])) rfl (by kernel_rfl) (by kernel_rfl) (by kernel_rfl) (fun _ _ _ h => h) (Or.inl ⟨by rfl, fun W hW => ?_⟩) (by assumption) ?_
              · go_simp
              simp only [Act.put, List.setIfInBounds_toArray, List.set_cons_zero, List.set_cons_succ]
              refine wpAnyH_take (i := 12) (oi := ⟨some 126, _, _, _, _, none⟩) (v := (.pointer p8)) rfl (by kernel_rfl) (by kernel_rfl) (by kernel_rfl) (fun _ _ _ h => h) (Or.inl ⟨by rfl, fun W hW => ?_⟩) (by assumption) ?_
              · go_simp
              simp only [Act.put, List.setIfInBounds_toArray, List.set_cons_zero, List.set_cons_succ]
              refine wpAnyH_take (i := 13) (oi := ⟨some 127, _, _, _, _, none⟩) (v := (.int .i64 2)) rfl (by kernel_rfl) (by kernel_rfl) (by kernel_rfl) (fun _ _ _ h => h) (Or.inl ⟨by rfl, fun W hW => ?_⟩) (by assumption) ?_
              · go_simp
              simp only [Act.put, List.setIfInBounds_toArray, List.set_cons_zero, List.set_cons_succ]
              refine wpAnyH_take (i := 14) (oi := ⟨some 11, _, _, _, _, none⟩) (v := (.pointer p8)) rfl (by kernel_rfl) (by kernel_rfl) (by kernel_rfl) (fun _ _ _ h => h) (Or.inl ⟨by rfl, fun W hW => ?_⟩) (by assumption) ?_
              · go_simp
              simp only [Act.put, List.setIfInBounds_toArray, List.set_cons_zero, List.set_cons_succ]
              refine wpAnyH_take (i := 15) (oi := ⟨some 12, _, _, _, _, none⟩) (v := (.int .i64 2)) rfl (by kernel_rfl) (by kernel_rfl) (by kernel_rfl) (fun _ _ _ h => h) (Or.inl ⟨by rfl, fun W hW => ?_⟩) (by assumption) ?_
              · go_simp
              simp only [Act.put, List.setIfInBounds_toArray, List.set_cons_zero, List.set_cons_succ]
              refine wpAnyH_done (by kernel_rfl) ?_ _
              have HE8 := Lib.hid (HE.out.same hB8); have HB8 := Lib.hid (HBz.out.trans (hB8.mono HBz.out.size))
              clear hHeld hB8 hB8'
              go_wp2_with fail
              go_roundw
              case rel =>
                first
                | exact ⟨3 + 1, by omega, by first | rfl | go_num, HE8.out, HB8.out⟩
                | (repeat apply Exists.intro
                   exact ⟨⟨3 + 1, by omega, by first | rfl | go_num, HE8.out, HB8.out⟩, rfl⟩)
              case measure => simp [intOf]
            · go_wp2_with fail
              refine wp_region_held_drew (S := fun W => W.heap[Lb]? = wz.heap[Lb]?) (by kernel_rfl) (rfl) (fun hHeld => ?_)
              refine wpAnyH_take (i := 0) (oi := ⟨some 115, _, _, _, _, none⟩) (v := (.slice (some ⟨Lb, 0, none⟩) 6 6)) rfl (by kernel_rfl) (by kernel_rfl) (by kernel_rfl) (fun _ _ _ h => h) (Or.inl ⟨by rfl, fun W hW => ?_⟩) (by assumption) ?_
              · go_simp
              simp only [Act.put, List.setIfInBounds_toArray, List.set_cons_zero, List.set_cons_succ]
              refine wpAnyH_take (i := 1) (oi := ⟨some 116, _, _, _, _, none⟩) (v := (.int .i64 4)) rfl (by kernel_rfl) (by kernel_rfl) (by kernel_rfl) (fun _ _ _ h => h) (Or.inl ⟨by rfl, fun W hW => ?_⟩) (by assumption) ?_
              · go_simp
              simp only [Act.put, List.setIfInBounds_toArray, List.set_cons_zero, List.set_cons_succ]
              refine wpAnyH_take (i := 2) (oi := ⟨some 117, _, _, _, _, none⟩) (v := (.pointer (some ⟨Lb, 8, none⟩))) rfl (by kernel_rfl) (by kernel_rfl) (by kernel_rfl) (fun _ _ _ h => h) (Or.inl ⟨by rfl, fun W hW => ?_⟩) (by assumption) ?_
              · go_simp
              simp only [Act.put, List.setIfInBounds_toArray, List.set_cons_zero, List.set_cons_succ]
              refine wpAnyH_take (i := 3) (oi := ⟨some 118, _, _, _, _, none⟩) (v := (.pointer (some ⟨Lb, 8, none⟩))) rfl (by kernel_rfl) (by kernel_rfl) (by kernel_rfl) (fun _ _ _ h => h) (Or.inl ⟨by rfl, fun W hW => ?_⟩) (by assumption) ?_
              · go_simp
              simp only [Act.put, List.setIfInBounds_toArray, List.set_cons_zero, List.set_cons_succ]
              refine wpAnyH_take (i := 4) (oi := ⟨some 119, _, _, _, _, none⟩) (v := (.int .i64 1)) rfl (by kernel_rfl) (by kernel_rfl) (by kernel_rfl) (fun _ _ _ h => h) (Or.inl ⟨by rfl, fun W hW => ?_⟩) (by assumption) ?_
              · have := (HES.out W hW).c 8 _ rfl; go_simp
              simp only [Act.put, List.setIfInBounds_toArray, List.set_cons_zero, List.set_cons_succ]
              refine wpAnyH_take (i := 5) (oi := ⟨some 120, _, _, _, _, none⟩) (v := (.slice (some ⟨Lb, 0, none⟩) 6 6)) rfl (by kernel_rfl) (by kernel_rfl) (by kernel_rfl) (fun _ _ _ h => h) (Or.inl ⟨by rfl, fun W hW => ?_⟩) (by assumption) ?_
              · go_simp
              simp only [Act.put, List.setIfInBounds_toArray, List.set_cons_zero, List.set_cons_succ]
              refine wpAnyH_take (i := 6) (oi := ⟨some 121, _, _, _, _, none⟩) (v := (.int .i64 4)) rfl (by kernel_rfl) (by kernel_rfl) (by kernel_rfl) (fun _ _ _ h => h) (Or.inl ⟨by rfl, fun W hW => ?_⟩) (by assumption) ?_
              · go_simp
              simp only [Act.put, List.setIfInBounds_toArray, List.set_cons_zero, List.set_cons_succ]
              refine wpAnyH_take (i := 7) (oi := ⟨some 122, _, _, _, _, none⟩) (v := (.pointer (some ⟨Lb, 8, none⟩))) rfl (by kernel_rfl) (by kernel_rfl) (by kernel_rfl) (fun _ _ _ h => h) (Or.inl ⟨by rfl, fun W hW => ?_⟩) (by assumption) ?_
              · go_simp
              simp only [Act.put, List.setIfInBounds_toArray, List.set_cons_zero, List.set_cons_succ]
              refine wpAnyH_take (i := 8) (oi := ⟨some 123, _, _, _, _, none⟩) (v := (.pointer (some ⟨Lb, 9, none⟩))) rfl (by kernel_rfl) (by kernel_rfl) (by kernel_rfl) (fun _ _ _ h => h) (Or.inl ⟨by rfl, fun W hW => ?_⟩) (by assumption) ?_
              · go_simp
              simp only [Act.put, List.setIfInBounds_toArray, List.set_cons_zero, List.set_cons_succ]
              refine wpAnyH_take (i := 9) (oi := ⟨some 124, _, _, _, _, none⟩) (v := (.int .i64 0)) rfl (by kernel_rfl) (by kernel_rfl) (by kernel_rfl) (fun _ _ _ h => h) (Or.inl ⟨by rfl, fun W hW => ?_⟩) (by assumption) ?_
              · have := (HES.out W hW).c 9 _ rfl; go_simp
              simp only [Act.put, List.setIfInBounds_toArray, List.set_cons_zero, List.set_cons_succ]
              refine wpAnyH_ready (rs := [10]) (by kernel_rfl) (by simp) (AllReadyH.cons rfl (fun KK hKK => ?_) AllReadyH.nil)
              go_simp
              refine (cn_no 1 0 (by omega) _).mono ?_
              rintro e w8 ⟨p8, rfl, hB8'⟩
              dsimp only
              have hB8 : Below wz.heap.size wz w8 := (below_dr (Below.refl _ wz) 1).trans hB8'
              refine hKK.out _ _ (hB8.block _ (Array.getElem?_eq_some_iff.1 HE.out).1) (fun hHeld => ?_)
              clear hKK KK
              try simp only [Act.put, List.setIfInBounds_toArray, List.set_cons_zero, List.set_cons_succ]
              refine wpAnyH_take (i := 11) (oi := ⟨some 114, _, _, _, _, none⟩) (v := (.tuple #[.pointer p8, .int .i64 2])) rfl (by kernel_rfl) (by kernel_rfl) (by kernel_rfl) (fun _ _ _ h => h) (Or.inl ⟨by rfl, fun W hW => ?_⟩) (by assumption) ?_
              · go_simp
              simp only [Act.put, List.setIfInBounds_toArray, List.set_cons_zero, List.set_cons_succ]
              refine wpAnyH_take (i := 12) (oi := ⟨some 126, _, _, _, _, none⟩) (v := (.pointer p8)) rfl (by kernel_rfl) (by kernel_rfl) (by kernel_rfl) (fun _ _ _ h => h) (Or.inl ⟨by rfl, fun W hW => ?_⟩) (by assumption) ?_
              · go_simp
              simp only [Act.put, List.setIfInBounds_toArray, List.set_cons_zero, List.set_cons_succ]
              refine wpAnyH_take (i := 13) (oi := ⟨some 127, _, _, _, _, none⟩) (v := (.int .i64 2)) rfl (by kernel_rfl) (by kernel_rfl) (by kernel_rfl) (fun _ _ _ h => h) (Or.inl ⟨by rfl, fun W hW => ?_⟩) (by assumption) ?_
              · go_simp
              simp only [Act.put, List.setIfInBounds_toArray, List.set_cons_zero, List.set_cons_succ]
              refine wpAnyH_take (i := 14) (oi := ⟨some 11, _, _, _, _, none⟩) (v := (.pointer p8)) rfl (by kernel_rfl) (by kernel_rfl) (by kernel_rfl) (fun _ _ _ h => h) (Or.inl ⟨by rfl, fun W hW => ?_⟩) (by assumption) ?_
              · go_simp
              simp only [Act.put, List.setIfInBounds_toArray, List.set_cons_zero, List.set_cons_succ]
              refine wpAnyH_take (i := 15) (oi := ⟨some 12, _, _, _, _, none⟩) (v := (.int .i64 2)) rfl (by kernel_rfl) (by kernel_rfl) (by kernel_rfl) (fun _ _ _ h => h) (Or.inl ⟨by rfl, fun W hW => ?_⟩) (by assumption) ?_
              · go_simp
              simp only [Act.put, List.setIfInBounds_toArray, List.set_cons_zero, List.set_cons_succ]
              refine wpAnyH_done (by kernel_rfl) ?_ _
              have HE8 := Lib.hid (HE.out.same hB8); have HB8 := Lib.hid (HBz.out.trans (hB8.mono HBz.out.size))
              clear hHeld hB8 hB8'
              go_wp2_with fail
              go_roundw
              case rel =>
                first
                | exact ⟨4 + 1, by omega, by first | rfl | go_num, HE8.out, HB8.out⟩
                | (repeat apply Exists.intro
                   exact ⟨⟨4 + 1, by omega, by first | rfl | go_num, HE8.out, HB8.out⟩, rfl⟩)
              case measure => simp [intOf]
            · go_wp2_with fail
              refine wp_region_held_drew (S := fun W => W.heap[Lb]? = wz.heap[Lb]?) (by kernel_rfl) (rfl) (fun hHeld => ?_)
              refine wpAnyH_take (i := 0) (oi := ⟨some 115, _, _, _, _, none⟩) (v := (.slice (some ⟨Lb, 0, none⟩) 6 6)) rfl (by kernel_rfl) (by kernel_rfl) (by kernel_rfl) (fun _ _ _ h => h) (Or.inl ⟨by rfl, fun W hW => ?_⟩) (by assumption) ?_
              · go_simp
              simp only [Act.put, List.setIfInBounds_toArray, List.set_cons_zero, List.set_cons_succ]
              refine wpAnyH_take (i := 1) (oi := ⟨some 116, _, _, _, _, none⟩) (v := (.int .i64 5)) rfl (by kernel_rfl) (by kernel_rfl) (by kernel_rfl) (fun _ _ _ h => h) (Or.inl ⟨by rfl, fun W hW => ?_⟩) (by assumption) ?_
              · go_simp
              simp only [Act.put, List.setIfInBounds_toArray, List.set_cons_zero, List.set_cons_succ]
              refine wpAnyH_take (i := 2) (oi := ⟨some 117, _, _, _, _, none⟩) (v := (.pointer (some ⟨Lb, 10, none⟩))) rfl (by kernel_rfl) (by kernel_rfl) (by kernel_rfl) (fun _ _ _ h => h) (Or.inl ⟨by rfl, fun W hW => ?_⟩) (by assumption) ?_
              · go_simp
              simp only [Act.put, List.setIfInBounds_toArray, List.set_cons_zero, List.set_cons_succ]
              refine wpAnyH_take (i := 3) (oi := ⟨some 118, _, _, _, _, none⟩) (v := (.pointer (some ⟨Lb, 10, none⟩))) rfl (by kernel_rfl) (by kernel_rfl) (by kernel_rfl) (fun _ _ _ h => h) (Or.inl ⟨by rfl, fun W hW => ?_⟩) (by assumption) ?_
              · go_simp
              simp only [Act.put, List.setIfInBounds_toArray, List.set_cons_zero, List.set_cons_succ]
              refine wpAnyH_take (i := 4) (oi := ⟨some 119, _, _, _, _, none⟩) (v := (.int .i64 (-1))) rfl (by kernel_rfl) (by kernel_rfl) (by kernel_rfl) (fun _ _ _ h => h) (Or.inl ⟨by rfl, fun W hW => ?_⟩) (by assumption) ?_
              · have := (HES.out W hW).c 10 _ rfl; go_simp
              simp only [Act.put, List.setIfInBounds_toArray, List.set_cons_zero, List.set_cons_succ]
              refine wpAnyH_take (i := 5) (oi := ⟨some 120, _, _, _, _, none⟩) (v := (.slice (some ⟨Lb, 0, none⟩) 6 6)) rfl (by kernel_rfl) (by kernel_rfl) (by kernel_rfl) (fun _ _ _ h => h) (Or.inl ⟨by rfl, fun W hW => ?_⟩) (by assumption) ?_
              · go_simp
              simp only [Act.put, List.setIfInBounds_toArray, List.set_cons_zero, List.set_cons_succ]
              refine wpAnyH_take (i := 6) (oi := ⟨some 121, _, _, _, _, none⟩) (v := (.int .i64 5)) rfl (by kernel_rfl) (by kernel_rfl) (by kernel_rfl) (fun _ _ _ h => h) (Or.inl ⟨by rfl, fun W hW => ?_⟩) (by assumption) ?_
              · go_simp
              simp only [Act.put, List.setIfInBounds_toArray, List.set_cons_zero, List.set_cons_succ]
              refine wpAnyH_take (i := 7) (oi := ⟨some 122, _, _, _, _, none⟩) (v := (.pointer (some ⟨Lb, 10, none⟩))) rfl (by kernel_rfl) (by kernel_rfl) (by kernel_rfl) (fun _ _ _ h => h) (Or.inl ⟨by rfl, fun W hW => ?_⟩) (by assumption) ?_
              · go_simp
              simp only [Act.put, List.setIfInBounds_toArray, List.set_cons_zero, List.set_cons_succ]
              refine wpAnyH_take (i := 8) (oi := ⟨some 123, _, _, _, _, none⟩) (v := (.pointer (some ⟨Lb, 11, none⟩))) rfl (by kernel_rfl) (by kernel_rfl) (by kernel_rfl) (fun _ _ _ h => h) (Or.inl ⟨by rfl, fun W hW => ?_⟩) (by assumption) ?_
              · go_simp
              simp only [Act.put, List.setIfInBounds_toArray, List.set_cons_zero, List.set_cons_succ]
              refine wpAnyH_take (i := 9) (oi := ⟨some 124, _, _, _, _, none⟩) (v := (.int .i64 5)) rfl (by kernel_rfl) (by kernel_rfl) (by kernel_rfl) (fun _ _ _ h => h) (Or.inl ⟨by rfl, fun W hW => ?_⟩) (by assumption) ?_
              · have := (HES.out W hW).c 11 _ rfl; go_simp
              simp only [Act.put, List.setIfInBounds_toArray, List.set_cons_zero, List.set_cons_succ]
              refine wpAnyH_ready (rs := [10]) (by kernel_rfl) (by simp) (AllReadyH.cons rfl (fun KK hKK => ?_) AllReadyH.nil)
              go_simp
              refine (cn_no (-1) 5 (by omega) _).mono ?_
              rintro e w8 ⟨p8, rfl, hB8'⟩
              dsimp only
              have hB8 : Below wz.heap.size wz w8 := (below_dr (Below.refl _ wz) 1).trans hB8'
              refine hKK.out _ _ (hB8.block _ (Array.getElem?_eq_some_iff.1 HE.out).1) (fun hHeld => ?_)
              clear hKK KK
              try simp only [Act.put, List.setIfInBounds_toArray, List.set_cons_zero, List.set_cons_succ]
              refine wpAnyH_take (i := 11) (oi := ⟨some 114, _, _, _, _, none⟩) (v := (.tuple #[.pointer p8, .int .i64 2])) rfl (by kernel_rfl) (by kernel_rfl) (by kernel_rfl) (fun _ _ _ h => h) (Or.inl ⟨by rfl, fun W hW => ?_⟩) (by assumption) ?_
              · go_simp
              simp only [Act.put, List.setIfInBounds_toArray, List.set_cons_zero, List.set_cons_succ]
              refine wpAnyH_take (i := 12) (oi := ⟨some 126, _, _, _, _, none⟩) (v := (.pointer p8)) rfl (by kernel_rfl) (by kernel_rfl) (by kernel_rfl) (fun _ _ _ h => h) (Or.inl ⟨by rfl, fun W hW => ?_⟩) (by assumption) ?_
              · go_simp
              simp only [Act.put, List.setIfInBounds_toArray, List.set_cons_zero, List.set_cons_succ]
              refine wpAnyH_take (i := 13) (oi := ⟨some 127, _, _, _, _, none⟩) (v := (.int .i64 2)) rfl (by kernel_rfl) (by kernel_rfl) (by kernel_rfl) (fun _ _ _ h => h) (Or.inl ⟨by rfl, fun W hW => ?_⟩) (by assumption) ?_
              · go_simp
              simp only [Act.put, List.setIfInBounds_toArray, List.set_cons_zero, List.set_cons_succ]
              refine wpAnyH_take (i := 14) (oi := ⟨some 11, _, _, _, _, none⟩) (v := (.pointer p8)) rfl (by kernel_rfl) (by kernel_rfl) (by kernel_rfl) (fun _ _ _ h => h) (Or.inl ⟨by rfl, fun W hW => ?_⟩) (by assumption) ?_
              · go_simp
              simp only [Act.put, List.setIfInBounds_toArray, List.set_cons_zero, List.set_cons_succ]
              refine wpAnyH_take (i := 15) (oi := ⟨some 12, _, _, _, _, none⟩) (v := (.int .i64 2)) rfl (by kernel_rfl) (by kernel_rfl) (by kernel_rfl) (fun _ _ _ h => h) (Or.inl ⟨by rfl, fun W hW => ?_⟩) (by assumption) ?_
              · go_simp
              simp only [Act.put, List.setIfInBounds_toArray, List.set_cons_zero, List.set_cons_succ]
              refine wpAnyH_done (by kernel_rfl) ?_ _
              have HE8 := Lib.hid (HE.out.same hB8); have HB8 := Lib.hid (HBz.out.trans (hB8.mono HBz.out.size))
              clear hHeld hB8 hB8'
              go_wp2_with fail
              go_roundw
              case rel =>
                first
                | exact ⟨5 + 1, by omega, by first | rfl | go_num, HE8.out, HB8.out⟩
                | (repeat apply Exists.intro
                   exact ⟨⟨5 + 1, by omega, by first | rfl | go_num, HE8.out, HB8.out⟩, rfl⟩)
              case measure => simp [intOf]
            · go_wp2_with fail
              refine (none6_any _).mono ?_
              rintro e w8 ⟨rfl, hB8⟩
              have HB8 := Lib.hid (HBz.out.trans (hB8.mono HBz.out.size)); clear hB8
              go_wp2_with fail
              refine (awake6_any _).mono ?_
              rintro e w9 ⟨rfl, hB9⟩
              have HB9 := Lib.hid (HB8.out.trans (hB9.mono HB8.out.size)); clear hB9
              go_wp2
              go_ret
              exact ⟨rfl, HB9.out⟩
end Go.Proofs.YtjnfghhochcpaaaGreat
