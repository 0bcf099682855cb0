/- The document's Decode of layer 20. Stage 20's wakes and its laws PartsEncodes, PartsDecodes, PartsBack, walked. -/
import Derived.Test.YtgibkbeakfaehaaDoorJpt26
import Derived.Test.YtgibkbeakfaehaaDoorJpt31
import Derived.Test.YtgibkbeakfaehaaDoorJpt35
import Derived.Test.YtgibkbeakfaehaaDoorJpt47

namespace Go.Proofs.YtgibkbeakfaehaaDoor
open Go.RowKit
set_option maxRecDepth 100000
def decG (b l : List UInt8) : Option (List En) := decF b l.length l
theorem decG_none {b l : List UInt8} (h : cutL (btwL b) l = none) : decG b l = none := by
  unfold decG
  cases n : l.length with
  | zero => rfl
  | succ n => show (match cutL (btwL b) l with | none => none | some (p, r) => _) = none; rw [h]
theorem decG_bad {b l p r : List UInt8} (h : cutL (btwL b) l = some (p, r)) (g : readL p = none) : decG b l = none := by
  unfold decG
  cases n : l.length with
  | zero => rfl
  | succ n =>
    show (match cutL (btwL b) l with | none => none | some (p, r) => _) = none
    rw [h]
    show (match readL p with | none => none | some e => _) = none
    rw [g]
theorem cut_pos {b l p r : List UInt8} (h : cutL (btwL b) l = some (p, r)) : l.length = p.length + (b.length + 4) + r.length := by
  have sp := congrArg List.length (cut_spec h)
  rw [List.length_append, List.length_append] at sp
  exact sp
theorem decG_step {b l p r : List UInt8} {e : En} (h : cutL (btwL b) l = some (p, r)) (g : readL p = some e) : decG b l = if r = endL then some [e] else if [13, 10].isPrefixOf r = true then (decG b (r.drop 2)).map (e :: ·) else none := by
  have hl := cut_pos h
  obtain ⟨n, hn⟩ : ∃ n, l.length = n + 1 := ⟨l.length - 1, by omega⟩
  unfold decG
  rw [hn]
  show (match cutL (btwL b) l with | none => none | some (p, r) => match readL p with | none => none | some e => if r = endL then some [e] else if [13, 10].isPrefixOf r = true then (decF b n (r.drop 2)).map (e :: ·) else none) = _
  rw [h]
  show (match readL p with | none => none | some e => if r = endL then some [e] else if [13, 10].isPrefixOf r = true then (decF b n (r.drop 2)).map (e :: ·) else none) = _
  rw [g]
  show (if r = endL then some [e] else if [13, 10].isPrefixOf r = true then (decF b n (r.drop 2)).map (e :: ·) else none) = _
  rw [decF_more b (n := n) (m := (r.drop 2).length) (l := r.drop 2) (by rw [List.length_drop]; omega) (Nat.le_refl _)]
theorem decP_first {s b : List UInt8} (h : fitL b = true) (g : ¬ s = 45 :: 45 :: (b ++ endL)) (q : (fstL b).isPrefixOf s = false) : decP s b = none := by unfold decP; rw [if_pos h, if_neg g, if_neg (by rw [q]; decide)]
theorem decP_go {s b : List UInt8} (h : fitL b = true) (g : ¬ s = 45 :: 45 :: (b ++ endL)) (q : (fstL b).isPrefixOf s = true) : decP s b = decG b (s.drop (b.length + 4)) := by
  unfold decP decG
  rw [if_pos h, if_neg g, if_pos q]
  exact decF_more b (by rw [List.length_drop]; omega) (Nat.le_refl _)
set_option maxHeartbeats 8000000 in
theorem refDecode20_any (s b : ByteArray) (w : World) (hs : s.size ≤ 16777216) (hb : b.size ≤ 1000) :
    Calls Tryd.prog 22 #[.string s, .string b] w fun e w' => ∃ v', e = .returned (.tuple #[v', .int .i64 (decI (decP (bL s) (bL b)))]) ∧ OwnR w.heap.size w' v' (decR (decP (bL s) (bL b))) ∧ Below w.heap.size w w' := by
  have HF := hide (refFit_any b w (by omega))
  obtain ⟨RES, hRES⟩ : ∃ R, Hid (decP (bL s) (bL b) = R) := ⟨_, show _ = _ from rfl⟩
  rw [hRES.out]
  have LBb := hide (len_bL b)
  cases ft : fitL (bL b) with
  | false =>
    have RN : Hid (RES = none) := by show _ = _; rw [← hRES.out]; exact decP_no ft
    rw [ft] at HF
    clear ft hRES
    go_enter Tryd.func22, Tryd.ntmps22
    go_wp2_with fail
    refine HF.out.mono ?_
    rintro e w1 ⟨rfl, b1⟩
    go_wp2_with fail
    go_ret2
    exact ⟨_, ret_dec (by rw [RN.out]; rfl), by rw [RN.out]; exact OwnR.nil _ _, b1⟩
  | true =>
    rw [ft] at HF
    have S1 : ((⟨#[45, 45]⟩ : ByteArray) ++ b).size ≤ 2 + 1000 := app_le (by decide) hb
    have S2 : ((⟨#[13, 10, 45, 45]⟩ : ByteArray) ++ b).size ≤ 4 + 1000 := app_le (by decide) hb
    have E1 : Hid (bL ((⟨#[45, 45]⟩ : ByteArray) ++ b ++ ⟨#[45, 45, 13, 10]⟩) = 45 :: 45 :: (bL b ++ endL)) := by show _ = _; simp only [bL_app]; rfl
    have EQ := hide (eq_bL (s := s) (t := (⟨#[45, 45]⟩ : ByteArray) ++ b ++ ⟨#[45, 45, 13, 10]⟩))
    by_cases he : bL s = 45 :: 45 :: (bL b ++ endL)
    · have RN : Hid (RES = some []) := by show _ = _; rw [← hRES.out]; exact decP_end ft he
      have q0 : (s.toList == ((⟨#[45, 45]⟩ : ByteArray) ++ b ++ ⟨#[45, 45, 13, 10]⟩).toList) = true := by rw [EQ.out, E1.out]; exact decide_eq_true he
      clear ft hRES he EQ E1
      go_enter Tryd.func22, Tryd.ntmps22
      go_wp2_with fail
      refine HF.out.mono ?_
      rintro e w1 ⟨rfl, b1⟩
      go_wp2_with fail
      go_ret2
      exact ⟨_, ret_dec (by rw [RN.out]; rfl), by rw [RN.out]; exact OwnR.nil _ _, b1⟩
    · have q0 : (s.toList == ((⟨#[45, 45]⟩ : ByteArray) ++ b ++ ⟨#[45, 45, 13, 10]⟩).toList) = false := by rw [EQ.out, E1.out]; exact decide_eq_false he
      have E2 : Hid (bL ((⟨#[45, 45]⟩ : ByteArray) ++ b ++ ⟨#[13, 10]⟩) = fstL (bL b)) := by show _ = _; simp only [bL_app]; rfl
      have S3 : ((⟨#[45, 45]⟩ : ByteArray) ++ b ++ ⟨#[13, 10]⟩).size ≤ 2 + 1000 + 2 := app_le S1 (by decide)
      have HB := hide (fun W => refBegins_any s ((⟨#[45, 45]⟩ : ByteArray) ++ b ++ ⟨#[13, 10]⟩) 0 W (by omega) (by omega) (Nat.zero_le _))
      rw [E2.out, List.drop_zero] at HB
      have EL : Hid (bL ((⟨#[13, 10, 45, 45]⟩ : ByteArray) ++ b) = btwL (bL b)) := by show _ = _; simp only [bL_app]; rfl
      cases qf : (fstL (bL b)).isPrefixOf (bL s) with
      | false =>
        have RN : Hid (RES = none) := by show _ = _; rw [← hRES.out]; exact decP_first ft he qf
        rw [qf] at HB
        clear ft hRES he EQ E1 E2 EL qf
        go_enter Tryd.func22, Tryd.ntmps22
        go_wp2_with fail
        refine HF.out.mono ?_
        rintro e w1 ⟨rfl, b1⟩
        go_wp2_with fail
        refine (HB.out _).mono ?_
        rintro e w2 ⟨rfl, hu⟩
        obtain rfl : w1 = w2 := hu.symm
        go_wp2_with fail
        go_ret2
        exact ⟨_, ret_dec (by rw [RN.out]; rfl), by rw [RN.out]; exact OwnR.nil _ _, b1⟩
      | true =>
        have RG : Hid (decG (bL b) ((bL s).drop ((bL b).length + 4)) = RES) := by show _ = _; rw [← hRES.out]; exact (decP_go ft he qf).symm
        have pl : b.size + 4 ≤ s.size := by
          have := (List.isPrefixOf_iff_prefix.1 qf).length_le
          rw [len_bL] at this
          have e2 : (fstL (bL b)).length = (bL b).length + 4 := by unfold fstL; simp
          rw [e2, len_bL] at this
          exact this
        rw [qf] at HB
        clear ft hRES he EQ E1 E2 qf
        go_enter Tryd.func22, Tryd.ntmps22
        go_wp2_with fail
        refine HF.out.mono ?_
        rintro e w1 ⟨rfl, b1⟩
        go_wp2_with fail
        refine (HB.out _).mono ?_
        rintro e w2 ⟨rfl, hu⟩
        obtain rfl : w1 = w2 := hu.symm
        clear HB HF q0
        have B1 := hide b1
        clear b1
        go_wp2_with fail
        have EB := hide EL.out
        generalize (⟨#[13, 10, 45, 45]⟩ : ByteArray) ++ b = bt at *
        go_loopw [8, 9] (fun ov kv wr => ∃ (k : Nat) (U : List En) (q : Option Addr) (cp : Nat), k ≤ s.size ∧ kv = .int .i64 k ∧ ov = .slice q U.length cp ∧ Hid (OwnR w1.heap.size wr (.slice q U.length cp) U) ∧ Hid ((decG (bL b) ((bL s).drop k)).map (U ++ ·) = RES) ∧ U.length ≤ k ∧ Hid (Below w1.heap.size w1 wr)) (fun _ kv _ => s.size + 1 - (intOf kv).toNat)
        case atStart => exact ⟨b.size + 4, [], none, 0, by omega, (by congr 1; omega), rfl, OwnR.nil _ _, by show _ = _; rw [← RG.out, LBb.out]; cases decG (bL b) ((bL s).drop (b.size + 4)) <;> rfl, Nat.zero_le _, Below.refl _ _⟩
        case round =>
          rename World => wr
          obtain ⟨k, U, q, cp, hk, rfl, rfl, OW, HE, lu, BW⟩ := hrel
          have FN := hide (fun W => refFindP_any s bt k W (by omega) (by omega) hk)
          rw [EB.out] at FN
          have k0 : (0 : Int) ≤ (k : Int) := by omega
          cases hc : cutL (btwL (bL b)) ((bL s).drop k) with
          | none =>
            have RN : Hid (RES = none) := by show _ = _; rw [← HE.out, decG_none hc]; rfl
            rw [show fndI (btwL (bL b)) ((bL s).drop k) k = -1 by unfold fndI; rw [hc]] at FN
            clear hc HE OW RG
            go_wp2_with fail
            refine (FN.out _).mono ?_
            rintro e w2 ⟨rfl, hu⟩
            obtain rfl : wr = w2 := hu.symm
            go_wp2_with fail
            go_ret2
            exact ⟨_, ret_dec (by rw [RN.out]; rfl), by rw [RN.out]; exact OwnR.nil _ _, chain B1.out BW.out⟩
          | some pr =>
            obtain ⟨p, r⟩ := pr
            have cp0 := cut_pos hc
            have SP := cut_spec hc
            rw [List.length_drop, len_bL, len_bL] at cp0
            rw [show fndI (btwL (bL b)) ((bL s).drop k) k = ((k + p.length : Nat) : Int) by unfold fndI; rw [hc]] at FN
            have XP : Hid (s.extract k (k + p.length) = txt p) := by
              show _ = _
              rw [ext_txt, SP, show k + p.length - k = p.length by omega, List.append_assoc, List.take_left' rfl]
            have RR : Hid ((bL s).drop (k + p.length + bt.size) = r) := by
              show _ = _
              have e1 : (btwL (bL b)).length = bt.size := by rw [← EL.out, len_bL]
              rw [Nat.add_assoc, ← List.drop_drop, SP, List.drop_left' (by rw [List.length_append, e1])]
            have bz : bt.size = b.size + 4 := by rw [← len_bL bt, EL.out]; show (bL b).length + 4 = _; rw [len_bL]
            have HRd := hide (fun W => refRead_any (txt p) W (by show p.length ≤ _; omega))
            rw [show bL (txt p) = p from rfl, ← XP.out] at HRd
            have tz : k + p.length ≤ s.size := by omega
            have t2z : k + p.length + bt.size ≤ s.size := by omega
            clear XP SP
            cases hr : readL p with
            | none =>
              have RN : Hid (RES = none) := by show _ = _; rw [← HE.out, decG_bad hc hr]; rfl
              rw [hr] at HRd
              clear hc HE OW RG hr RR cp0 bz
              generalize ht : k + p.length = t at *
              have kt : k ≤ t := by omega
              clear ht
              have t0 : (0 : Int) ≤ (t : Int) := by omega
              have k1 : (k : Int) ≤ (t : Int) := by omega
              have t1 : (t : Int) ≤ (s.size : Int) := by omega
              have t2 : ¬ (t : Int) < 0 := by omega
              have t3 : decide ((t : Int) < 0) = false := decide_eq_false t2
              go_wp2_with fail
              refine (FN.out _).mono ?_
              rintro e w2 ⟨rfl, hu⟩
              obtain rfl : wr = w2 := hu.symm
              go_wp2_with fail
              refine (HRd.out _).mono ?_
              rintro e w2 ⟨x, rfl, hx, b2⟩
              unfold enV
              clear hx
              go_wp2_with fail
              go_ret2
              exact ⟨_, ret_dec (by rw [RN.out]; rfl), by rw [RN.out]; exact OwnR.nil _ _, ((chain (chain B1.out BW.out) b2)).alloc (chain (chain B1.out BW.out) b2).size _⟩
            | some ee =>
              have ST := hide (decG_step hc hr)
              rw [hr] at HRd
              have QE := hide (eq_bL (s := s.extract (k + p.length + bt.size) s.size) (t := ⟨#[45, 45, 13, 10]⟩))
              rw [show (⟨#[45, 45, 13, 10]⟩ : ByteArray).toList = [45, 45, 13, 10] by rw [ByteArray.toList_eq]] at QE
              have QX : bL (s.extract (k + p.length + bt.size) s.size) = r := by
                rw [ext_txt, RR.out, List.take_of_length_le (by omega)]; rfl
              rw [QX] at QE
              have HB2 := hide (fun W => refBegins_any s ⟨#[13, 10]⟩ (k + p.length + bt.size) W (by omega) (by decide) t2z)
              rw [RR.out, show bL ⟨#[13, 10]⟩ = [13, 10] from rfl] at HB2
              have R2 : Hid ((bL s).drop (k + p.length + bt.size + 2) = r.drop 2) := by show _ = _; rw [← List.drop_drop, RR.out]
              have rl : [13, 10].isPrefixOf r = true → 2 ≤ r.length := fun t => (List.isPrefixOf_iff_prefix.1 t).length_le
              have RL := hide rl
              clear hc hr RG QX rl
              have cpz : k + p.length + bt.size + r.length = s.size := by omega
              clear cp0 bz
              generalize ht : k + p.length = t at *
              have kt : k ≤ t := by omega
              clear ht RR
              have t0 : (0 : Int) ≤ (t : Int) := by omega
              have k1 : (k : Int) ≤ (t : Int) := by omega
              have t1 : (t : Int) ≤ (s.size : Int) := by omega
              have t2 : ¬ (t : Int) < 0 := by omega
              have t3 : decide ((t : Int) < 0) = false := decide_eq_false t2
              have t4 : (0 : Int) ≤ (t : Int) + (bt.size : Int) := by omega
              have t5 : (t : Int) + (bt.size : Int) ≤ (s.size : Int) := by omega
              go_wp2_with fail
              refine (FN.out _).mono ?_
              rintro e w2 ⟨rfl, hu⟩
              obtain rfl : wr = w2 := hu.symm
              go_wp2_with fail
              refine (HRd.out _).mono ?_
              rintro e w2 ⟨x, rfl, hx, b2⟩
              unfold enV
              obtain rfl : x = ee := hx ee rfl
              clear hx
              have B2 := hide (chain BW.out b2)
              have O2 := hide (OW.out.below b2)
              have K1 := hide (Bk.new w2 [.string x.name, .string x.val, .bool x.file, .string x.fname, .string x.typ] 44)
              have AL : Hid (Below w2.heap.size w2 (w2.alloc (.cells #[.string x.name, .string x.val, .bool x.file, .string x.fname, .string x.typ] 44))) := (Below.refl _ w2).alloc (Nat.le_refl _) _
              have AL2 : Hid (Below (w2.alloc (.cells #[.string x.name, .string x.val, .bool x.file, .string x.fname, .string x.typ] 44)).heap.size (w2.alloc (.cells #[.string x.name, .string x.val, .bool x.file, .string x.fname, .string x.typ] 44)) ((w2.alloc (.cells #[.string x.name, .string x.val, .bool x.file, .string x.fname, .string x.typ] 44)).alloc (.cells #[.string x.name, .string x.val, .bool x.file, .string x.fname, .string x.typ] 44))) := (Below.refl _ _).alloc (Nat.le_refl _) _
              have F1 := hide (files_one (w2.alloc (.cells #[.string x.name, .string x.val, .bool x.file, .string x.fname, .string x.typ] 44)) x)
              rw [World.size_alloc] at F1
              have O4 := hide ((O2.out.below AL.out).below AL2.out)
              have B4 := hide (chain (chain B2.out AL.out) AL2.out)
              have SZ4 := hide B4.out.size
              have z0 := K1.out.cell 0 rfl
              have z1 := K1.out.cell 1 rfl
              have z2 := K1.out.cell 2 rfl
              have z3 := K1.out.cell 3 rfl
              have z4 := K1.out.cell 4 rfl
              clear b2 AL AL2 O2 B2 OW
              have l72 : (U.length + 1) * 72 ≤ 140737488355328 := by omega
              by_cases re : r = endL
              · have qe : ((s.extract (t + bt.size) s.size).toList == [45, 45, 13, 10]) = true := by
                  have h := QE.out
                  rw [decide_eq_true (show r = bL ⟨#[45, 45, 13, 10]⟩ from re)] at h
                  exact h
                have RN : Hid (RES = some (U ++ [x])) := by show _ = _; rw [← HE.out, ST.out, if_pos re]; rfl
                clear QE re HE ST HB2 R2 RL
                go_wp2_with (at_builtin; refine wpList_append_en rfl _ _ rfl w1.heap.size _ U rfl O4.out _ [x] rfl F1.out l72 SZ4.out ?_; intro q8 c8 w8 o8 b8)
                go_ret2
                exact ⟨_, ret_dec (by rw [RN.out]; rfl), by rw [RN.out]; exact OwnR.mono (by have := o8; exact this) B1.out.size, (chain B1.out (B4.out.trans b8))⟩
              · have qe : ((s.extract (t + bt.size) s.size).toList == [45, 45, 13, 10]) = false := by
                  have h := QE.out
                  rw [decide_eq_false (show ¬ r = bL ⟨#[45, 45, 13, 10]⟩ from re)] at h
                  exact h
                rw [if_neg re] at ST
                cases cr : [13, 10].isPrefixOf r with
                | false =>
                  have RN : Hid (RES = none) := by show _ = _; rw [← HE.out, ST.out, if_neg (by rw [cr]; decide)]; rfl
                  rw [cr] at HB2
                  clear QE re HE ST R2 RL cr
                  go_wp2_with (at_builtin; refine wpList_append_en rfl _ _ rfl w1.heap.size _ U rfl O4.out _ [x] rfl F1.out l72 SZ4.out ?_; intro q8 c8 w8 o8 b8)
                  refine (HB2.out _).mono ?_
                  rintro e w9 ⟨rfl, hu⟩
                  obtain rfl : w8 = w9 := hu.symm
                  go_wp2_with fail
                  go_ret2
                  exact ⟨_, ret_dec (by rw [RN.out]; rfl), by rw [RN.out]; exact OwnR.nil _ _, (chain B1.out (B4.out.trans b8))⟩
                | true =>
                  have r2 := RL.out cr
                  have HE2 : Hid ((decG (bL b) ((bL s).drop (t + bt.size + 2))).map ((U ++ [x]) ++ ·) = RES) := by
                    show _ = _
                    rw [← HE.out, ST.out, if_pos cr, R2.out]
                    cases decG (bL b) (r.drop 2) <;> simp
                  rw [cr] at HB2
                  clear QE re HE ST R2 RL cr
                  have LN : Hid ((U ++ [x]).length = U.length + 1) := by show _ = _; rw [List.length_append]; rfl
                  go_wp2_with (at_builtin; refine wpList_append_en rfl _ _ rfl w1.heap.size _ U rfl O4.out _ [x] rfl F1.out l72 SZ4.out ?_; intro q8 c8 w8 o8 b8)
                  refine (HB2.out _).mono ?_
                  rintro e w9 ⟨rfl, hu⟩
                  obtain rfl : w8 = w9 := hu.symm
                  go_wp2_with fail
                  go_roundw
                  case rel => exact ⟨t + bt.size + 2, U ++ [x], q8, c8, by omega, by go_num, by rw [LN.out], by show OwnR _ _ _ _; rw [LN.out]; exact o8, HE2, by rw [LN.out]; omega, B4.out.trans b8⟩
                  case measure => simp [intOf]; omega
end Go.Proofs.YtgibkbeakfaehaaDoor

namespace Go.Proofs.YtgibkbeakfaehaaDoor
open Go.RowKit
set_option maxRecDepth 100000
theorem decF_few (b : List UInt8) : ∀ (n : Nat) (s : List UInt8) (l : List En), decF b n s = some l → l.length ≤ n
  | 0, s, l, h => by cases h
  | n + 1, s, l, h => by
    unfold decF at h
    cases c : cutL (btwL b) s with
    | none => rw [c] at h; cases h
    | some pr =>
      obtain ⟨p, r⟩ := pr
      rw [c] at h
      have h : (match readL p with | none => none | some e => if r = endL then some [e] else if [13, 10].isPrefixOf r = true then (decF b n (r.drop 2)).map (e :: ·) else none) = some l := h
      cases g : readL p with
      | none => rw [g] at h; cases h
      | some e =>
        rw [g] at h
        have h : (if r = endL then some [e] else if [13, 10].isPrefixOf r = true then (decF b n (r.drop 2)).map (e :: ·) else none) = some l := h
        split at h
        · cases h; simp
        · split at h
          · cases q : decF b n (r.drop 2) with
            | none => rw [q] at h; cases h
            | some m =>
              rw [q] at h
              cases h
              have := decF_few b n _ m q
              simp only [List.length_cons]
              omega
          · cases h
theorem decP_few {s b : List UInt8} : (decR (decP s b)).length ≤ s.length := by
  unfold decP
  split
  · split
    · simp [decR]
    · split
      · cases q : decF b s.length (s.drop (b.length + 4)) with
        | none => simp [decR]
        | some m => exact decF_few b _ _ m q
      · simp [decR]
  · simp [decR]
set_option maxHeartbeats 8000000 in
theorem partsDecodes_walk (s b : ByteArray) (w : World) (hs : s.size ≤ maxLen) (hz : b.size ≤ maxLen) (hT : PtTabs w) :
    Calls Tryd.prog 5 #[.string s, .string b] w fun e w' => e = .returned (.bool true) ∧ Below w.heap.size w w' := by
  have HW := hide (ptWakes_any w hT)
  have hs' : s.size ≤ 9223372036854775807 := hs
  have hz' : b.size ≤ 9223372036854775807 := hz
  clear hs hz
  by_cases h6 : 6000 < s.size
  · have d : decide (6000 < (s.size : Int)) = true := decide_eq_true (by omega)
    clear hT h6
    go_enter Tryd.func5, Tryd.ntmps5
    go_wp2_with fail
    refine HW.out.mono ?_
    rintro e w1 ⟨rfl, b1⟩
    go_wp2_with fail
    go_ret
    exact ⟨rfl, b1⟩
  · have d : decide (6000 < (s.size : Int)) = false := decide_eq_false (by omega)
    by_cases h1 : 1000 < b.size
    · have d1 : decide (1000 < (b.size : Int)) = true := decide_eq_true (by omega)
      clear hT h6 h1
      go_enter Tryd.func5, Tryd.ntmps5
      go_wp2_with fail
      refine HW.out.mono ?_
      rintro e w1 ⟨rfl, b1⟩
      go_wp2_with fail
      go_ret
      exact ⟨rfl, b1⟩
    · have d1 : decide (1000 < (b.size : Int)) = false := decide_eq_false (by omega)
      have HD := hide (fun W (hb' : Below w.heap.size w W) => ptDecode_any s b W (by omega) (by omega) (hT.below hb'))
      have HR := hide (fun W => refDecode20_any s b W (by omega) (by omega))
      have HSm := hide (fun x y W (ha : FilesV W x (decR (decP (bL s) (bL b)))) (hb : FilesV W y (decR (decP (bL s) (bL b)))) => refSameFiles_yes x y _ W ha hb (by
        have := decP_few (s := bL s) (b := bL b)
        rw [len_bL] at this
        omega))
      have EQ : Hid ((decI (decP (bL s) (bL b)) == decI (decP (bL s) (bL b))) = true) := by show _ = _; simp
      clear hT h6 h1
      generalize decR (decP (bL s) (bL b)) = dl at *
      generalize decI (decP (bL s) (bL b)) = di at *
      go_enter Tryd.func5, Tryd.ntmps5
      go_wp2_with fail
      refine HW.out.mono ?_
      rintro e w1 ⟨rfl, b1⟩
      go_wp2_with fail
      refine (HD.out _ b1).mono ?_
      rintro e w2 ⟨v2, rfl, f2, b2⟩
      have F2 := hide f2
      have B2 := hide (chain b1 b2)
      obtain ⟨p2, c2, rfl⟩ := files_formP f2
      clear f2 b1 b2
      go_wp2_with fail
      refine (HR.out _).mono ?_
      rintro e w3 ⟨v3, rfl, f3, b3⟩
      have F3 := hide f3.files
      have B3 := hide (chain B2.out b3)
      replace F2 := hide (F2.out.below b3)
      obtain ⟨p3, c3, rfl⟩ := files_formP F3.out
      clear f3 b3 B2
      have q1 := EQ.out
      go_wp2_with fail
      refine (HSm.out _ _ _ F2.out F3.out).mono ?_
      rintro e w4 ⟨rfl, b4⟩
      go_wp2_with fail
      go_ret
      exact ⟨rfl, chain B3.out b4⟩

end Go.Proofs.YtgibkbeakfaehaaDoor
