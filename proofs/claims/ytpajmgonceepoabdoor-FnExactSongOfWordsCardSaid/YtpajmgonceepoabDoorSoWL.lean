/- The texts SoWI, SoWS, SoWL, as one. -/
import Derived.Test.YtpajmgonceepoabDoorSpellI
import Derived.Test.YtpajmgonceepoabDoorISongJ
import Derived.Lib.SplitLaws
namespace Go.Proofs.YtpajmgonceepoabDoor
open Go.ChangeShapes Go.WideShapes Go.ChangeAt Go.RowKit

theorem sp_cnt (b : UInt8) : ∀ (l cur : List UInt8), (sp b cur l).length = l.count b + 1
  | [], cur => by simp [sp]
  | c :: r, cur => by
    rw [sp]
    split
    · rename_i e
      subst e
      rw [List.length_cons, sp_cnt c r [], List.count_cons_self]
    · rename_i e
      rw [sp_cnt b r _, List.count_cons_of_ne e]

/-- Split at a sign: the pieces, in a row of their own -/
theorem splitAll_any (b : UInt8) (l : List UInt8) (W : World) (hM : MxL W) (hl : l.length < 2000000) :
    Calls Tryd.prog 19 #[.string ⟨l.toArray⟩, .string ⟨#[b]⟩] W fun e w' =>
      e = .returned (.slice (some ⟨W.heap.size, 0, none⟩) (sp b [] l).length (sp b [] l).length) ∧ Kp Nw W w' ∧
        ∀ j : Nat, j < (sp b [] l).length → w'.cell? ⟨W.heap.size, j, none⟩ = some (sval ((sp b [] l).getD j [])) := by
  obtain ⟨m, hm⟩ := hM
  have hcnt : Lib.countB ⟨l.toArray⟩ ⟨#[b]⟩ = l.count b := Lib.count_one b l
  have hd := Lib.splitB_data ⟨#[b]⟩ 0 (l.count b) ⟨l.toArray⟩
  have hlen := sp_cnt b l []
  have hsk : Lib.splitK [b] 0 (l.count b) l = sp b [] l := by
    rcases splitK_sp b (l.count b) l with ⟨h1, _⟩ | ⟨_, h2⟩
    · exact h1
    · omega
  refine (Tryd.strings_Split ⟨l.toArray⟩ ⟨#[b]⟩ m W (by show l.length < _; omega) hm (by show 1 ≤ 1; omega)).mono ?_
  rintro e w' ⟨rfl, rfl⟩
  rw [hcnt, hlen]
  obtain ⟨ps, hps⟩ : ∃ ps, Lib.splitB ⟨#[b]⟩ 0 (l.count b) ⟨l.toArray⟩ = ps := ⟨_, rfl⟩
  rw [hps] at hd ⊢
  have e1 : sp b [] l = ps.map (·.data.toList) := by rw [← hsk]; exact hd.symm
  refine ⟨rfl, Kp.al _ _, fun j hj => ?_⟩
  have hj2 : j < ps.length := by rw [← hlen, e1, List.length_map] at hj; exact hj
  rw [World.cell?_alloc_new, e1]
  rw [← Array.getElem?_toList, List.toList_toArray]
  simp [sval, hj2]

/-- how many words a line has; 0 if it is not words -/
def cwS (l : List UInt8) : Int := if (sp 32 [] l).all okLet = true then ((sp 32 [] l).length : Int) else 0

set_option maxHeartbeats 1600000 in
theorem countWords_any (l : List UInt8) (W : World) (hM : MxL W) (hl : l.length ≤ 1048576) :
    Calls Tryd.prog 20 #[.string ⟨l.toArray⟩] W fun e w' => e = .returned (.int .i64 (cwS l)) ∧ Kp Nw W w' := by
  obtain ⟨r, hr⟩ : ∃ r, cwS l = r := ⟨_, rfl⟩
  rw [hr]
  have HR := Lib.hid hr
  have hc := splitAll_any 32 l W hM (by omega)
  have HSH : Hid (∀ w ∈ sp 32 [] l, w.length ≤ 2000000) := Lib.hid (sp_short 32 2000000 l [] (by simp; omega))
  obtain ⟨ps, hps⟩ : ∃ ps, sp 32 [] l = ps := ⟨_, rfl⟩
  have HP := Lib.hid hps
  rw [hps] at hc HSH
  obtain ⟨n, hn⟩ : ∃ n, ps.length = n := ⟨_, rfl⟩
  have HN := Lib.hid hn
  have hn2 : n ≤ 1048577 := by have := sp_few 32 l []; rw [hps] at this; omega
  rw [hn] at hc
  have HC := Lib.hid hc
  have n0 : (0 : Int) ≤ n := Int.natCast_nonneg _
  clear hr hc hps hn
  go_enter Tryd.func20, Tryd.ntmps20
  go_wp2_with fail
  refine HC.out.mono ?_
  rintro e w1 ⟨rfl, hk1, hcell⟩
  have HK1 := Lib.hid hk1
  have HCE := Lib.hid hcell
  clear hk1 hcell
  go_wp2
  go_loopw [10] (fun i wr => ∃ j : Nat, j ≤ n ∧ i = .int .i64 j ∧ (ps.take j).all okLet = true ∧ Kp Nw w1 wr) (fun i _ => n - (intOf i).toNat)
  case atStart => exact ⟨0, Nat.zero_le _, rfl, rfl, Kp.refl _ _⟩
  case round =>
    rename_i wr
    obtain ⟨j, hj, rfl, ha, hk⟩ := hrel
    have j0 : (0 : Int) ≤ j := Int.natCast_nonneg _
    have HK := Lib.hid hk
    by_cases hlt : j < n
    · have hl' : j < ps.length := by rw [HN.out]; exact hlt
      obtain ⟨p, hp⟩ : ∃ p, ps.getD j [] = p := ⟨_, rfl⟩
      have c0 := keepc hk (HCE.out j hlt) (fun h => h)
      rw [hp] at c0
      have hx : ps[j] = p := by rw [← hp]; simp [hl']
      have hpl := HSH.out p (by rw [← hx]; exact List.getElem_mem _)
      have j1 : (j : Int) < n := by omega
      have hw := isWord_any p
      replace c0 : wr.cell? ⟨W.heap.size, j, none⟩ = some (.string ⟨p.toArray⟩) := c0
      by_cases ok : okLet p = true
      · have HA : Hid ((ps.take (j + 1)).all okLet = true) := Lib.hid (by rw [List.take_succ_eq_append_getElem hl', List.all_append, ha, hx]; simp [ok])
        rw [ok] at hw
        have HW := Lib.hid hw
        clear hk ha ok hp hx hl' hw
        go_wp2_with fail
        refine (HW.out _ hpl).mono ?_
        rintro e w5 ⟨rfl, hk5⟩
        have HK5 := Lib.hid (HK.out.nw hk5)
        clear hk5
        go_wp2
        go_roundw
        case rel => exact ⟨j + 1, by omega, by go_num, HA.out, HK5.out⟩
        case measure => simp [intOf]; omega
      · have HE : Hid (r = 0) := Lib.hid (by
          have hf : ps.all okLet = false := by rw [List.all_eq_false]; exact ⟨ps[j], List.getElem_mem _, by rw [hx]; exact ok⟩
          rw [← HR.out]
          unfold cwS
          rw [HP.out, hf, if_neg (fun h => by cases h)])
        have okf : okLet p = false := by simpa using ok
        rw [okf] at hw
        have HW := Lib.hid hw
        clear hk ha ok okf hp hx hl' hw
        go_wp2_with fail
        refine (HW.out _ hpl).mono ?_
        rintro e w5 ⟨rfl, hk5⟩
        have HK5 := Lib.hid (HK1.out.nw (HK.out.nw hk5))
        clear hk5
        go_wp2
        go_ret
        exact ⟨ret_int' HE.out.symm, HK5.out⟩
    · have e : j = n := by omega
      subst e
      have HE : Hid (r = j) := Lib.hid (by
        rw [List.take_of_length_le (by rw [HN.out]; exact Nat.le_refl _)] at ha
        rw [← HR.out]
        unfold cwS
        rw [HP.out, ha, if_pos rfl, HN.out])
      have HK2 := Lib.hid (HK1.out.nw HK.out)
      clear hk ha
      go_wp2
      go_ret
      exact ⟨ret_int' HE.out.symm, HK2.out⟩

set_option maxHeartbeats 1600000 in
theorem each_words (g : Nat) (ps : List (List UInt8)) (fs : List Int) (W : World) (n : Nat) (hn : ps.length = n) (hfs : ps.map cwS = fs) (hl : n ≤ 1000000) (hM : MxL W) (hpl : ∀ p ∈ ps, p.length ≤ 1048576)
    (hc : ∀ j : Nat, j < n → W.cell? ⟨g, j, none⟩ = some (sval (ps.getD j []))) :
    Calls Tryd.prog 18 #[.slice (some ⟨g, 0, none⟩) n n, .func (.func 20) #[] #[]] W (Makes W fs) := by
  obtain ⟨i0, hi0, hz0, hz1, hz2⟩ := info_parts intInfo
  have HC := Lib.hid hc
  have HN := Lib.hid hn
  have HF : Hid (fs.length = n) := Lib.hid (by rw [← hfs, List.length_map, hn])
  have HFG : Hid (∀ j, j < n → fs.getD j 0 = cwS (ps.getD j [])) := Lib.hid (fun j hj => by rw [← hfs]; simp [hn, hj])
  have HPL : Hid (∀ j, j < n → (ps.getD j []).length ≤ 1048576) := Lib.hid (fun j hj => hpl _ (by simp [hn, hj]))
  have HM := Lib.hid hM
  clear hn hfs hc hpl hM
  go_enter Tryd.func18, Tryd.ntmps18
  go_wp2_with (first | (at_make; refine wpList_make_full _ rfl _ _ 22 rfl W.heap.size 3 i0 (.int .i64 0) 1 Tryd.underlying22 hi0 hz0 hz1 _ _ _ _ n rfl rfl rfl rfl (by rw [hz2]; omega) (by unfold maxLen; omega) (Nat.le_refl _) ?_))
  intro w1 hown hgrow
  have hk1 : Kp Nw W w1 := (Kp.refl _ _).grown hgrow (fun g hg => by cases hg)
  have HS := Lib.hid (Sl.zeros hown)
  have HK := Lib.hid hk1
  clear hown hgrow hk1
  go_wp2
  go_loopw [6, 7, 13] (fun _ _ i wr => ∃ j : Nat, j ≤ n ∧ i = .int .i64 j ∧ Hid (SlAt wr W.heap.size W.heap.size n n (fill fs (List.replicate n 0) j)) ∧ Hid (Kp Nw W wr)) (fun _ _ i _ => n - (intOf i).toNat)
  case atStart => exact ⟨0, Nat.zero_le _, rfl, Lib.hid (by rw [fill_zero]; exact HS.out), HK⟩
  case round =>
    rename_i wr
    obtain ⟨j, hj, rfl, H, HK2⟩ := hrel
    by_cases hlt : j < n
    · have c0 := keepc HK2.out (HC.out j hlt) (fun h => h)
      have hpl := HPL.out j hlt
      have hy := HFG.out j hlt
      obtain ⟨p, hp⟩ : ∃ p, ps.getD j [] = p := ⟨_, rfl⟩
      rw [hp] at c0 hpl hy
      obtain ⟨y, hyy⟩ : ∃ y, cwS p = y := ⟨_, rfl⟩
      have T1 := Lib.hid (countWords_any p wr (HM.out.nw HK2.out) hpl)
      rw [hyy] at T1 hy
      have HY := Lib.hid hy
      replace c0 : wr.cell? ⟨g, j, none⟩ = some (.string ⟨p.toArray⟩) := c0
      have j0 : (0 : Int) ≤ j := Int.natCast_nonneg _
      have j1 : (j : Int) < n := by omega
      clear hp hy hyy
      go_wp2_with fail
      refine T1.out.mono ?_
      rintro e w2 ⟨rfl, hk2⟩
      have hs2 := H.out.kq8 hk2 (fun h => h)
      have f0 := hs2.frozen j
      have s0 := hs2.cell j hlt
      have H2 := Lib.hid hs2
      have HK3 := Lib.hid (HK2.out.nw hk2)
      clear hs2 hk2 T1
      go_wp2
      go_roundw
      case rel =>
        refine ⟨j + 1, by omega, by go_num, Lib.hid ?_, Lib.hid (HK3.out.setCell (.inr (Nat.le_refl _)) _)⟩
        have h2 := H2.out.store j y
        rw [fill_set fs _ j y (by simp [HF.out]) (by rw [HF.out]; exact hlt) (by rw [← HY.out]; simp [HF.out, hlt])] at h2
        exact h2
      case measure => simp [intOf]; omega
    · have e : j = n := by omega
      subst e
      have hn1 := HF.out
      have hs := H.out
      rw [show fill fs (List.replicate j 0) j = fs by
        have := fill_all fs (List.replicate j 0) (by simp [hn1])
        rwa [hn1] at this] at hs
      have H3 := Lib.hid hs
      clear hs hn1
      go_wp2
      go_ret
      exact ⟨_, rfl, H3.out.sl, HK2.out⟩

/-- the counts of a text; whether they make a song -/
def cntW (l : List UInt8) : List Int := (sp 47 [] l).map cwS
def swB (l : List UInt8) : Bool := decide (l.length ≤ 300) && sgB (cntW l)

set_option maxRecDepth 100000 in
set_option maxHeartbeats 1600000 in
theorem iSongOfWords_any (l : List UInt8) (W : World) (hM : MxL W) (hl : l.length ≤ 1048576) (zs : List Int) (b : Bool) (hb : swB l = b) (hz : zs = if b = true then cntW l else []) :
    Calls Tryd.prog 6 #[.string ⟨l.toArray⟩] W (SongB W zs b) := by
  have hll : (l.length : Int) ≤ 1048576 := by omega
  by_cases h3 : l.length ≤ 300
  · have h6 : ¬ (300 : Int) < (l.length : Int) := by omega
    have hc := splitAll_any 47 l (W.alloc (.cells #[.slice none 0 0] 24)) (hM.nw (.al _ _)) (by omega)
    have HXB : Hid (b = sgB (cntW l)) := Lib.hid (by rw [← hb]; unfold swB; rw [decide_eq_true h3, Bool.true_and])
    have HSH : Hid (∀ p ∈ sp 47 [] l, p.length ≤ 1048576) := Lib.hid (fun p hp => by have := sp_short 47 300 l [] (by simp; omega) p hp; omega)
    have hfew := sp_few 47 l []
    have HM := Lib.hid (hM.nw (Kp.al W (.cells #[.slice none 0 0] 24)))
    obtain ⟨xs, hxs⟩ : ∃ xs, cntW l = xs := ⟨_, rfl⟩
    have HX := Lib.hid hxs
    rw [hxs] at HXB hz
    obtain ⟨n, hn⟩ : ∃ n, (sp 47 [] l).length = n := ⟨_, rfl⟩
    have HN := Lib.hid hn
    have HNX : Hid (xs.length = n) := Lib.hid (by rw [← hxs]; unfold cntW; rw [List.length_map, hn])
    have hn3 : n ≤ 301 := by omega
    rw [hn] at hc
    simp only [World.size_alloc] at hc
    have HC := Lib.hid hc
    have HZ := Lib.hid hz
    clear hc hb hz hxs hn hM hfew h3
    go_enter Tryd.func6, Tryd.ntmps6
    go_wp2_with fail
    refine HC.out.mono ?_
    rintro e w1 ⟨rfl, hk1, hcell⟩
    have T1 := Lib.hid ((Own1.new W (.slice none 0 0) 24).kp hk1 (fun h => h))
    have HK1 := Lib.hid ((Kp.al W (.cells #[.slice none 0 0] 24)).nw hk1)
    have HW := Lib.hid (each_words (W.heap.size + 1) (sp 47 [] l) xs w1 n HN.out HX.out (by omega) (HM.out.nw hk1) HSH.out hcell)
    clear hk1 hcell
    go_wp2_with fail
    refine HW.out.mono ?_
    rintro e w2 ⟨v2, rfl, hs2, hk2⟩
    obtain ⟨A2, c2, rfl⟩ := hs2.val HNX.out
    have T2 := Lib.hid (T1.out.kp hk2 (fun h => h))
    have HK2 := Lib.hid (HK1.out.nw hk2)
    have hz1 : W.heap.size + 1 ≤ w1.heap.size := World.block_lt_of_cell? w1 _ T1.out.1
    have HS2 := Lib.hid (hs2.from hz1)
    clear hs2 hk2
    go_wp2_with fail
    refine (ifSong_any A2 n c2 xs _ HS2.out.rd HNX.out (by omega) b HXB.out).mono ?_
    rintro e w3 ⟨rfl, hk3⟩
    have T3 := Lib.hid (T2.out.kp hk3 (fun h => h))
    have HK3 := Lib.hid (HK2.out.nw hk3)
    have HS3 := Lib.hid (HS2.out.below hk3.below')
    have hz3 : W.heap.size + 1 ≤ w3.heap.size := World.block_lt_of_cell? w3 _ T3.out.1
    clear hk3
    obtain ⟨t3, t3'⟩ := T3.out
    cases b
    · have ez : zs = [] := HZ.out
      subst ez
      simp only [ifS]
      have z0 := one_set w3 W.heap.size (.slice none 0 0) _ t3
      have HR := Lib.hid (song_none (W := W) 0 hz3 HK3.out)
      simp only [Nat.add_zero] at HR
      go_wp2
      refine bodyPost_ret (v := .tuple #[.agg #[.slice none 0 0], .bool false]) (by simp [results, Tryd.results6, go_sem, z0]) rfl ⟨_, rfl, HR.out.1, HR.out.2⟩
    · have ez : zs = xs := HZ.out
      subst ez
      simp only [ifS]
      have z0 := one_set w3 W.heap.size (.slice A2 n c2) _ t3
      have HR := Lib.hid (song_close (W := W) 0 HS3.out HK3.out)
      simp only [Nat.add_zero] at HR
      go_wp2
      refine bodyPost_ret (v := .tuple #[.agg #[.slice A2 n c2], .bool true]) (by simp [results, Tryd.results6, go_sem, z0]) rfl ⟨_, rfl, HR.out.1, HR.out.2⟩
  · have h6 : (300 : Int) < (l.length : Int) := by omega
    have eb : b = false := by rw [← hb]; unfold swB; rw [decide_eq_false h3, Bool.false_and]
    subst eb
    have ez : zs = [] := hz
    subst ez
    clear hb hz h3 hM
    go_enter Tryd.func6, Tryd.ntmps6
    go_wp2
    refine bodyPost_ret (v := .tuple #[.agg #[.slice none 0 0], .bool false]) (by simp [results, Tryd.results6, go_sem]) rfl ⟨_, rfl, (Sl.nil _ _).from (by first | exact Nat.le_refl _ | exact Nat.le_succ _ | (simp only [World.size_alloc]; omega)), Kp.al _ _⟩
end Go.Proofs.YtpajmgonceepoabDoor
namespace Go.Proofs.YtpajmgonceepoabDoor
open Go.ChangeShapes Go.WideShapes Go.ChangeAt Go.RowKit

theorem sg_zero (xs : List Int) (j : Nat) (h : j < xs.length) (h0 : xs.getD j 0 = 0) : sgB xs = false := by
  by_cases hg : sgB xs = true
  · have := sgB_get hg j h
    omega
  · simpa using hg
theorem cwS_bad (p : List UInt8) (q : Nat) (h : q < (sp 32 [] p).length) (hb : okLet ((sp 32 [] p).getD q []) = false) : cwS p = 0 := by
  have : (sp 32 [] p).all okLet = false := by
    rw [List.all_eq_false]
    refine ⟨(sp 32 [] p)[q], List.getElem_mem h, ?_⟩
    rw [List.getD_eq_getElem?_getD, List.getElem?_eq_getElem h] at hb
    simp at hb
    simp [hb]
  unfold cwS
  rw [this, if_neg (fun h => by cases h)]
theorem cwS_good (p : List UInt8) (h : ∀ q, q < (sp 32 [] p).length → okLet ((sp 32 [] p).getD q []) = true) : cwS p = ((sp 32 [] p).length : Int) := by
  have : (sp 32 [] p).all okLet = true := by
    rw [List.all_eq_true]
    intro x hx
    obtain ⟨j, hj, e⟩ := List.mem_iff_getElem.1 hx
    have := h j hj
    rw [List.getD_eq_getElem?_getD, List.getElem?_eq_getElem hj] at this
    simpa [e] using this
  unfold cwS
  rw [this, if_pos rfl]

set_option maxRecDepth 100000 in
set_option maxHeartbeats 1600000 in
theorem sSongOfWords_off (l : List UInt8) (W : World) (hl : l.length ≤ 1048576) (h : 300 < l.length) :
    Calls Tryd.prog 5 #[.string ⟨l.toArray⟩] W (SongB W [] false) := by
  have h2 : (300 : Int) < (l.length : Int) := by omega
  have hll : (l.length : Int) ≤ 1048576 := by omega
  go_enter Tryd.func5, Tryd.ntmps5
  go_wp2
  refine bodyPost_ret (v := .tuple #[.agg #[.slice none 0 0], .bool false]) (by simp [results, Tryd.results5, go_sem]) rfl ⟨_, rfl, (Sl.nil _ _).from (by first | exact Nat.le_refl _ | exact Nat.le_succ _ | (simp only [World.size_alloc]; omega)), Kp.al _ _⟩

set_option maxRecDepth 100000 in
set_option maxHeartbeats 6400000 in
theorem sSongOfWords_on (l : List UInt8) (W : World) (hl : l.length ≤ 300) (b : Bool) (hb : sgB (cntW l) = b) (zs : List Int) (hz : zs = if b = true then cntW l else []) :
    Calls Tryd.prog 5 #[.string ⟨l.toArray⟩] W (SongB W zs b) := by
  have hll : (l.length : Int) ≤ 300 := by omega
  have h6 : ¬ (300 : Int) < (l.length : Int) := by omega
  have hc := l1Split_any l 47 ((W.alloc (.cells #[.slice none 0 0] 24)).alloc (.cells #[.slice none 0 0] 24)) (by omega)
  have HP : Hid (0 < (sp 47 [] l).length) := Lib.hid (sp_pos 47 l [])
  have hn1 : (sp 47 [] l).length ≤ 301 := by have := sp_few 47 l []; omega
  have HPL : Hid (∀ p ∈ sp 47 [] l, p.length ≤ 300) := Lib.hid (sp_short 47 300 l [] (by simp; omega))
  obtain ⟨ls, hls⟩ : ∃ ls, sp 47 [] l = ls := ⟨_, rfl⟩
  unfold cntW at hb hz
  rw [hls] at hc HP hn1 HPL hb hz
  obtain ⟨xs, hxs⟩ : ∃ xs, ls.map cwS = xs := ⟨_, rfl⟩
  rw [hxs] at hb hz
  obtain ⟨n, hn⟩ : ∃ n, ls.length = n := ⟨_, rfl⟩
  have HN := Lib.hid hn
  have HX := Lib.hid hxs
  have HXN : Hid (xs.length = n) := Lib.hid (by rw [← hxs, List.length_map, hn])
  rw [hn] at hn1
  have HB := Lib.hid hb
  have HBAD : Hid (∀ j, j < n → cwS (ls.getD j []) = 0 → b = false ∧ zs = []) := Lib.hid (fun j hj h0 => by
    have e : b = false := by
      rw [← hb]
      refine sg_zero xs j (by rw [← hxs, List.length_map, hn]; exact hj) ?_
      rw [← hxs]
      have hjl : j < ls.length := by rw [hn]; exact hj
      simpa [hjl] using h0
    exact ⟨e, by rw [hz, e]; rfl⟩)
  have HZ := Lib.hid hz
  have HCS := Lib.hid hc
  clear hc hls hxs hn hb hz hl
  · go_enter Tryd.func5, Tryd.ntmps5
    go_wp2_with fail
    refine HCS.out.mono ?_
    rintro e w1 ⟨v, rfl, hs1, hk1⟩
    obtain ⟨g, cap, rfl, hc1, hcell⟩ := hs1.atd HP.out
    rw [HN.out] at hc1 hcell ⊢
    have HT1 := Lib.hid (((Own1.new W (.slice none 0 0) 24).kp (.al _ (.cells #[.slice none 0 0] 24)) (fun h => h)).kp hk1 (fun h => h))
    have HR1 := Lib.hid ((Own1.new (W.alloc (.cells #[.slice none 0 0] 24)) (.slice none 0 0) 24).kp hk1 (fun h => h))
    have HK1 := Lib.hid (((Kp.al W (.cells #[.slice none 0 0] 24)).nw (.al _ (.cells #[.slice none 0 0] 24))).nw hk1)
    simp only [World.size_alloc] at HR1
    have HC1 := Lib.hid hcell
    have hR : W.heap.size + 1 < w1.heap.size := World.block_lt_of_cell? w1 _ HR1.out.1
    have hgR : ¬ g = W.heap.size + 1 := fun e => by
      have h0 := hcell 0 (by have := HP.out; rw [HN.out] at this; exact this)
      rw [e, HR1.out.1] at h0
      unfold sval at h0
      cases h0
    clear hs1 hk1 hcell
    go_wp2
    go_loopw [18] (fun i wr => ∃ (j : Nat) (v : Value), j ≤ n ∧ i = .int .i64 j ∧ Hid (Own1 wr (W.heap.size + 1) v) ∧ Hid (Sl wr w1.heap.size v ((ls.take j).map cwS)) ∧ Hid (Kp (fun b => b = W.heap.size + 1) w1 wr)) (fun i _ => n - (intOf i).toNat)
    case atStart => exact ⟨0, _, Nat.zero_le _, rfl, HR1, Lib.hid (by simpa using Sl.nil _ _), Lib.hid (Kp.refl _ _)⟩
    case round =>
      rename_i wr
      obtain ⟨j, v, hj, rfl, HR, HS, HK⟩ := hrel
      have j0 : (0 : Int) ≤ j := Int.natCast_nonneg _
      have HT := Lib.hid (HT1.out.kp HK.out (show ¬ W.heap.size = W.heap.size + 1 by omega))
      have HKW := Lib.hid (HK1.out.after HK.out (fun q hq e => by have : q = W.heap.size + 1 := e; omega))
      by_cases hlt : j < n
      · have j1 : (j : Int) < n := by omega
        have hl' : j < ls.length := by rw [HN.out]; exact hlt
        obtain ⟨p, hp⟩ : ∃ p, ls.getD j [] = p := ⟨_, rfl⟩
        have cp := keepc HK.out (HC1.out j hlt) (show ¬ g = W.heap.size + 1 from hgR)
        rw [hp] at cp
        replace cp : wr.cell? ⟨g, j, none⟩ = some (.string ⟨p.toArray⟩) := cp
        have hx : ls[j] = p := by rw [← hp]; simp [hl']
        have hpl := HPL.out p (by rw [← hx]; exact List.getElem_mem _)
        have HX1 : Hid ((ls.take (j + 1)).map cwS = (ls.take j).map cwS ++ [cwS p]) := Lib.hid (by rw [List.take_succ_eq_append_getElem hl', hx]; simp)
        have HLJ : Hid (((ls.take j).map cwS).length = j) := Lib.hid (by simp; omega)
        have HTL : Hid (((ls.take j).map cwS).length ≤ 1001) := Lib.hid (by simp; omega)
        have HBJ : Hid (cwS p = 0 → b = false ∧ zs = []) := Lib.hid (fun h => HBAD.out j hlt (by rw [hp]; exact h))
        obtain ⟨Av, cv, rfl⟩ := HS.out.val (n := j) (by simp; omega)
        have hvo : Hid (∀ q, (Value.slice Av j cv).ownBlock = some q → w1.heap.size ≤ q) := Lib.hid (fun q hq => (HS.out.own_ge q hq).1)
        have hsz := HK.out.size
        have hrr : ∀ q, w1.heap.size ≤ q → ¬ q = W.heap.size + 1 := fun q hq => by omega
        have HPP : Hid (0 < (sp 32 [] p).length) := Lib.hid (sp_pos 32 p [])
        have hfew := sp_few 32 p []
        have HWL : Hid (∀ w ∈ sp 32 [] p, w.length ≤ 300) := Lib.hid (sp_short 32 300 p [] (by simp; omega))
        have HCB := Lib.hid (cwS_bad p)
        have HCG := Lib.hid (cwS_good p)
        have hc2 := l1Split_any p 32 wr (by omega)
        obtain ⟨ws, hws⟩ : ∃ ws, sp 32 [] p = ws := ⟨_, rfl⟩
        rw [hws] at HPP hfew HWL HCB HCG hc2
        obtain ⟨m, hm⟩ : ∃ m, ws.length = m := ⟨_, rfl⟩
        have HM := Lib.hid hm
        rw [hm] at hfew
        have hm2 : m ≤ 301 := by omega
        have HC2 := Lib.hid hc2
        clear hp hx hl' hc2 hws hm hfew
        go_wp2_with fail
        refine HC2.out.mono ?_
        rintro e w2 ⟨v2, rfl, hs2, hk2⟩
        obtain ⟨g2, cap2, rfl, hcc2, hcell2⟩ := hs2.atd HPP.out
        rw [HM.out] at hcc2 hcell2 ⊢
        have HCW := Lib.hid hcell2
        have HK2 := Lib.hid hk2
        have HT2 := Lib.hid (HT.out.kp hk2 (fun h => h))
        have HKW2 := Lib.hid (HKW.out.nw hk2)
        clear hs2 hk2 hcell2 cp
        go_wp2
        go_loopw [26] (fun i wx => ∃ (q : Nat) (wz : World), q ≤ m ∧ i = .int .i64 q ∧ wz = wx ∧ Hid (∀ k, k < q → okLet (ws.getD k []) = true) ∧ Hid (Kp Nw w2 wz)) (fun i _ => m - (intOf i).toNat)
        case atStart => exact ⟨0, _, Nat.zero_le _, rfl, rfl, Lib.hid (fun k hk => by omega), Lib.hid (Kp.refl _ _)⟩
        case round =>
          obtain ⟨q, wx, hq, rfl, rfl, HOK, HKX⟩ := hrel
          have q0 : (0 : Int) ≤ q := Int.natCast_nonneg _
          have HTX := Lib.hid (HT2.out.kp HKX.out (fun h => h))
          have HKWX := Lib.hid (HKW2.out.nw HKX.out)
          have hzx : W.heap.size + 1 ≤ wx.heap.size := World.block_lt_of_cell? wx _ HTX.out.1
          by_cases hqm : q < m
          · have q1 : (q : Int) < m := by omega
            have hql : q < ws.length := by rw [HM.out]; exact hqm
            have c2 := keepc HKX.out (HCW.out q hqm) (fun h => h)
            have hwl := HWL.out (ws.getD q []) (by rw [List.getD_eq_getElem?_getD, List.getElem?_eq_getElem hql]; exact List.getElem_mem hql)
            have HCBQ : Hid (okLet (ws.getD q []) = false → b = false ∧ zs = []) := Lib.hid (fun h => HBJ.out (HCB.out q hql h))
            obtain ⟨w, hw⟩ : ∃ w, ws.getD q [] = w := ⟨_, rfl⟩
            rw [hw] at c2 hwl HCBQ
            have HWE := Lib.hid hw
            replace c2 : wx.cell? ⟨g2, q, none⟩ = some (.string ⟨w.toArray⟩) := c2
            obtain ⟨k, hkl⟩ : ∃ k, w.length = k := ⟨_, rfl⟩
            have hsw : (ByteArray.mk w.toArray).size = k := by rw [← hkl]; rfl
            have HKL := Lib.hid hkl
            rw [hkl] at hwl
            have k0 : (0 : Int) ≤ k := Int.natCast_nonneg _
            clear hw hkl hql
            by_cases hk0 : k = 0
            · obtain ⟨eb, ez⟩ := HCBQ.out (by unfold okLet; rw [HKL.out, decide_eq_false (by omega), Bool.false_and])
              subst eb ez
              have y1 : (k : Int) = 0 := by omega
              have y2 : ((k : Int) == 0) = true := by simp; omega
              have t1 := HTX.out.1
              have t2 := HTX.out.2
              have z0 := one_set wx W.heap.size (.slice none 0 0) _ t1
              have HQ := Lib.hid (song_none (W := W) 0 hzx HKWX.out)
              simp only [Nat.add_zero] at HQ
              subst hk0
              go_wp2
              refine bodyPost_ret (v := .tuple #[.agg #[.slice none 0 0], .bool false]) (by simp [results, Tryd.results5, go_sem, z0]) rfl ⟨_, rfl, HQ.out.1, HQ.out.2⟩
            · have y1 : ¬ (k : Int) = 0 := by omega
              have y2 : ((k : Int) == 0) = false := by simp; omega
              go_wp2
              go_loopw [10] (fun u wy => ∃ (t : Nat) (z : Value), t ≤ k ∧ z = u ∧ wy = wx.iter ⟨w.toArray⟩ t ∧ ∀ i (hi : i < w.length), i < t → 97 ≤ w[i].toNat ∧ w[i].toNat ≤ 122) (fun _ wy => k - wy.iterPos wx.heap.size)
              case atStart => exact ⟨0, _, Nat.zero_le _, rfl, rfl, fun i hi h => by omega⟩
              case round =>
                obtain ⟨t, z, htk, rfl, rfl, hlet⟩ := hrel
                have HLT := Lib.hid hlet
                have t0 : (0 : Int) ≤ t := Int.natCast_nonneg _
                clear hlet
                by_cases hpk : t < k
                · have hqlw : t < w.length := by rw [HKL.out]; exact hpk
                  have hqs : t < (ByteArray.mk w.toArray).size := by rw [hsw]; exact hpk
                  have bj := bget w t hqlw hqs
                  obtain ⟨c, hcw⟩ : ∃ c, w[t]'hqlw = c := ⟨_, rfl⟩
                  rw [hcw] at bj
                  have HCC := Lib.hid hcw
                  have p1 : (t : Int) < k := by omega
                  clear hcw
                  by_cases hgo : 97 ≤ c.toNat ∧ c.toNat ≤ 122
                  · have hnx : ∀ ty, (Instr.next (.pointer (some ⟨wx.heap.size, 0, none⟩)) true ty).run Tryd.prog (wx.iter ⟨w.toArray⟩ t) = .ok (.tuple #[.bool true, .int .i64 t, .int .i32 (c.toNat)]) (wx.iter ⟨w.toArray⟩ (t + 1)) := fun ty => by
                      have := run_next_ascii (P := Tryd.prog) wx ⟨w.toArray⟩ t ty hqs (by rw [bj]; omega)
                      rw [bj] at this
                      exact this
                    have y3 : ¬ (c.toNat : Int) < 97 := by omega
                    have y4 : ¬ (122 : Int) < c.toNat := by omega
                    go_wp2
                    go_roundw
                    case rel =>
                      refine ⟨t + 1, _, by omega, rfl, rfl, fun i hi h => ?_⟩
                      by_cases e : i = t
                      · subst e
                        rw [HCC.out]
                        exact hgo
                      · exact HLT.out i hi (by omega)
                    case measure => simp [World.iterPos_iter] <;> omega
                  · have hnx := fun ty => run_next_any (P := Tryd.prog) wx ⟨w.toArray⟩ t ty hqs
                    obtain ⟨eb, ez⟩ := HCBQ.out (okLet_bad w t hqlw (by rw [HCC.out]; omega))
                    subst eb ez
                    obtain ⟨D, hD⟩ : ∃ D, (Utf8.decode ⟨w.toArray⟩ t).1 = D := ⟨_, rfl⟩
                    obtain ⟨E, hE⟩ : ∃ E, t + (Utf8.decode ⟨w.toArray⟩ t).2 = E := ⟨_, rfl⟩
                    simp only [hD, hE] at hnx
                    clear hD hE
                    have hOE : Own1 (wx.iter ⟨w.toArray⟩ E) W.heap.size (.slice none 0 0) := HTX.out.kp (Kp.al wx _) (fun h => h)
                    have hKE : Kp Nw W (wx.iter ⟨w.toArray⟩ E) := HKWX.out.nw (Kp.al wx _)
                    have t1 := hOE.1
                    have t2 := hOE.2
                    have z0 := one_set (wx.iter ⟨w.toArray⟩ E) W.heap.size (.slice none 0 0) _ t1
                    have HQ := Lib.hid (song_none (W := W) 0 (Nat.le_trans hzx (Kp.al wx _).size) hKE)
                    simp only [Nat.add_zero] at HQ
                    by_cases hlo : c.toNat < 97
                    · have y3 : (c.toNat : Int) < 97 := by omega
                      go_wp2
                      refine bodyPost_ret (v := .tuple #[.agg #[.slice none 0 0], .bool false]) (by simp [results, Tryd.results5, go_sem, z0]) rfl ⟨_, rfl, HQ.out.1, HQ.out.2⟩
                    · have y3 : ¬ (c.toNat : Int) < 97 := by omega
                      have y4 : (122 : Int) < c.toNat := by omega
                      go_wp2
                      refine bodyPost_ret (v := .tuple #[.agg #[.slice none 0 0], .bool false]) (by simp [results, Tryd.results5, go_sem, z0]) rfl ⟨_, rfl, HQ.out.1, HQ.out.2⟩
                · have e : t = k := by omega
                  subst e
                  have hnx := fun ty => run_next_end (P := Tryd.prog) wx ⟨w.toArray⟩ t ty (by rw [hsw]; omega)
                  have HGW := Lib.hid (okLet_good w (by rw [HKL.out]; omega) (fun i hi => HLT.out i hi (by rw [HKL.out] at hi; exact hi)))
                  have HKI : Hid (Kp Nw w2 (wx.iter ⟨w.toArray⟩ t)) := Lib.hid (HKX.out.nw (Kp.al wx _))
                  go_wp2
                  go_roundw
                  case rel =>
                    refine ⟨q + 1, _, by omega, by go_num, rfl, Lib.hid (fun k hk => ?_), HKI⟩
                    by_cases e : k = q
                    · subst e
                      rw [HWE.out]
                      exact HGW.out
                    · exact HOK.out k (by omega)
                  case measure => simp [intOf] <;> omega
          · have e : q = m := by omega
            subst e
            have HCE : Hid (cwS p = (q : Int)) := Lib.hid (by rw [HCG.out (fun k hk => HOK.out k (by rw [HM.out] at hk; exact hk)), HM.out])
            have hkk : Kp Nw wr wx := HK2.out.nw HKX.out
            have r0 := keepc hkk HR.out.1 (fun h => h)
            have HSX := Lib.hid (HS.out.below hkk.below')
            have HRX := Lib.hid (HR.out.kp hkk (fun h => h))
            have HKXX := Lib.hid (HK.out.nw hkk)
            have hzz : w1.heap.size ≤ wx.heap.size := HKXX.out.size
            clear hkk
            go_wp2_with (first | (at_builtin; refine wpList_app _ rfl (.tmp 52) (.tmp 55) rfl w1.heap.size (.slice Av j cv) _ ((ls.take j).map cwS) [(q : Int)] rfl rfl (HSX.out.below ((Kp.refl Nw wx).alloc _).below') (Rd.one (g := wx.heap.size) (by simp)) nil_one (by have := HTL.out; simp only [List.length_singleton]; omega) (by simp; omega) ?_))
            intro v3 w3 hs3 hk3 hat
            replace hs3 : Sl w3 w1.heap.size v3 ((ls.take j).map cwS ++ [(q : Int)]) := by first | exact hs3 | (rw [List.map_take]; exact hs3)
            obtain ⟨A3, c3, rfl⟩ := hs3.val (n := j + 1) (by rw [List.length_append, HLJ.out]; rfl)
            have hk3w := (HKXX.out.nw (.al _ (.cells #[.int .i64 (q : Int)] 3))).after hk3 (fun q hq e => by have := hvo.out q e; omega)
            have hk3' := ((Kp.refl (fun b => (Value.slice Av j cv).ownBlock = some b) wx).nw (.al _ (.cells #[.int .i64 (q : Int)] 3))).after hk3 (fun q hq e => e)
            have x3 := HRX.out.kp hk3' (fun e => hrr _ (hvo.out _ e) rfl)
            have x0 := x3.1
            have x1 := x3.2
            have HS3 : Hid (Sl w3 w1.heap.size (.slice A3 (j + 1) c3) ((ls.take (j + 1)).map cwS)) := Lib.hid (by rw [HX1.out, HCE.out]; exact hs3)
            have kS : Kp (fun b => b = W.heap.size + 1) w3 (w3.setCell ⟨W.heap.size + 1, 0, none⟩ (.slice A3 (j + 1) c3)) := (Kp.refl (fun b => b = W.heap.size + 1) w3).setCell (p := ⟨W.heap.size + 1, 0, none⟩) (.inl rfl) _
            have HR7 := Lib.hid (show Own1 (w3.setCell ⟨W.heap.size + 1, 0, none⟩ (.slice A3 (j + 1) c3)) (W.heap.size + 1) (.slice A3 (j + 1) c3) from ⟨World.cell?_setCell_same _ _ _ x0, by simpa using x1⟩)
            have HS7 := Lib.hid (HS3.out.kp kS (fun q hq e => hrr q (HS3.out.own_ge q hq).1 e))
            have HK7 := Lib.hid (hk3w.setCell (p := ⟨W.heap.size + 1, 0, none⟩) (.inl rfl) (.slice A3 (j + 1) c3))
            clear kS hs3 hk3 hk3' hk3w hat x3
            go_wp2
            go_roundw
            case rel => exact ⟨j + 1, _, by omega, by go_num, HR7, HS7, HK7⟩
            case measure => simp [intOf]; omega
      · obtain rfl : j = n := by omega
        have hE : (ls.take j).map cwS = xs := by rw [List.take_of_length_le (by have := HN.out; omega)]; exact HX.out
        rw [hE] at HS
        obtain ⟨A7, c7, rfl⟩ := HS.out.val HXN.out
        have r0 := HR.out.1
        clear hE hlt
        go_wp2_with fail
        refine (soGood_any A7 j c7 xs _ HS.out.rd HXN.out (by omega) b HB.out.symm).mono ?_
        rintro e w8 ⟨rfl, hk8⟩
        have HT8 := Lib.hid (HT.out.kp hk8 (fun h => h))
        have HR8 := Lib.hid (HR.out.kp hk8 (fun h => h))
        have HKW8 := Lib.hid (HKW.out.nw hk8)
        have hz8 : W.heap.size + 1 ≤ w8.heap.size := World.block_lt_of_cell? w8 _ HT8.out.1
        have HS8 := Lib.hid ((HS.out.below hk8.below').from (B' := W.heap.size + 1) (by omega))
        clear hk8 r0
        have t1 := HT8.out.1
        have t2 := HT8.out.2
        have r0 := HR8.out.1
        cases b
        · obtain rfl : zs = [] := by rw [HZ.out]; rfl
          have z0 := one_set w8 W.heap.size (.slice none 0 0) _ t1
          have HQ := Lib.hid (song_none (W := W) 0 hz8 HKW8.out)
          simp only [Nat.add_zero] at HQ
          go_wp2
          refine bodyPost_ret (v := .tuple #[.agg #[.slice none 0 0], .bool false]) (by simp [results, Tryd.results5, go_sem, z0]) rfl ⟨_, rfl, HQ.out.1, HQ.out.2⟩
        · obtain rfl : zs = xs := by rw [HZ.out]; rfl
          have z0 := one_set w8 W.heap.size (.slice A7 j c7) _ t1
          have HQ := Lib.hid (song_close (W := W) 0 HS8.out HKW8.out)
          simp only [Nat.add_zero] at HQ
          go_wp2
          refine bodyPost_ret (v := .tuple #[.agg #[.slice A7 j c7], .bool true]) (by simp [results, Tryd.results5, go_sem, z0]) rfl ⟨_, rfl, HQ.out.1, HQ.out.2⟩
theorem sSongOfWords_any (l : List UInt8) (W : World) (hl : l.length ≤ 1048576) (zs : List Int) (b : Bool) (hb : swB l = b) (hz : zs = if b = true then cntW l else []) :
    Calls Tryd.prog 5 #[.string ⟨l.toArray⟩] W (SongB W zs b) := by
  by_cases h3 : l.length ≤ 300
  · exact sSongOfWords_on l W h3 b (by rw [← hb]; unfold swB; rw [decide_eq_true h3, Bool.true_and]) zs hz
  · have eb : b = false := by rw [← hb]; unfold swB; rw [decide_eq_false h3, Bool.false_and]
    subst eb
    have ez : zs = [] := hz
    subst ez
    exact sSongOfWords_off l W hl (by omega)
end Go.Proofs.YtpajmgonceepoabDoor
namespace Go.Proofs.YtpajmgonceepoabDoor
open Go.ChangeShapes Go.WideShapes Go.ChangeAt Go.RowKit

set_option maxHeartbeats 800000 in
theorem lawSongOfWords_bigt (t : ByteArray) (W : World) (hm : t.size ≤ maxLen) (hb : (1048576 : Int) < t.size) :
    Calls Tryd.prog 3 #[.string t] W fun e w' => e = .returned (.bool true) ∧ Kp Nw W w' := by
  have hb3 : (t.size : Int) ≤ 9223372036854775807 := by unfold maxLen at hm; omega
  go_enter Tryd.func3, Tryd.ntmps3
  go_wp2
  go_ret
  exact ⟨rfl, Kp.refl _ _⟩

set_option maxHeartbeats 3200000 in
set_option maxRecDepth 100000 in
theorem lawSongOfWords_of (t : ByteArray) (zs : List Int) (b : Bool) (W : World) (ht : (t.size : Int) ≤ 1048576) (hlen : zs.length ≤ 1000000)
    (hS : Hid (∀ (W : World), Calls Tryd.prog 5 #[.string t] W (SongB W zs b))) (hI : Hid (∀ (V : World), Kp Nw W V → Calls Tryd.prog 6 #[.string t] V (SongB V zs b))) :
    Calls Tryd.prog 3 #[.string t] W fun e w' => e = .returned (.bool true) ∧ Kp Nw W w' := by
  obtain ⟨m, hm⟩ : ∃ m, zs.length = m := ⟨_, rfl⟩
  have HL : Hid (zs.length ≤ maxLen) := Lib.hid (by unfold maxLen; omega)
  have hlen : m ≤ 1000000 := by omega
  have hm0 : (0 : Int) ≤ m := Int.natCast_nonneg _
  have HM := Lib.hid hm
  clear hm
  have HK := Lib.hid (Kp.refl Nw W)
  go_enter Tryd.func3, Tryd.ntmps3
  go_wp2_with fail
  refine (hS.out _ ).mono ?_
  rintro e w1 ⟨v1, rfl, hs1, hk1⟩
  obtain ⟨A1, c1, rfl⟩ := hs1.val HM.out
  have HV1 := Lib.hid hs1
  have O1 : Hid (∀ g, (Value.slice A1 m c1).ownBlock = some g → W.heap.size ≤ g ∧ g < w1.heap.size) := Lib.hid (fun g hg => by have := hs1.own_ge g hg; omega)
  have HK := Lib.hid (HK.out.nw hk1)
  have z1 : W.heap.size ≤ w1.heap.size := hk1.size
  clear hs1 hk1
  go_wp2_with fail
  have hkp := Kp.al w1 (.cells #[.slice A1 m c1] 24)
  have HV1 := Lib.hid (HV1.out.below hkp.below')
  have HK := Lib.hid (HK.out.nw hkp)
  clear hkp
  have TV1 : Hid ((w1.alloc (.cells #[.slice A1 m c1] 24)).cell? ⟨w1.heap.size, 0, none⟩ = some (.slice A1 m c1)) := Lib.hid (Own1.new w1 (.slice A1 m c1) 24).1
  refine (hI.out _ HK.out).mono ?_
  rintro e w2 ⟨v2, rfl, hs2, hk2⟩
  obtain ⟨A2, c2, rfl⟩ := hs2.val HM.out
  have HV2 := Lib.hid hs2
  have O2 : Hid (∀ g, (Value.slice A2 m c2).ownBlock = some g → w1.heap.size + 1 ≤ g ∧ g < w2.heap.size) := Lib.hid (fun g hg => by have := hs2.own_ge g hg; simp only [World.size_alloc] at this; omega)
  have HV1 := Lib.hid (HV1.out.below hk2.below')
  have TV1 := Lib.hid (keepc hk2 TV1.out (fun h => h))
  have HK := Lib.hid (HK.out.nw hk2)
  have z2 : w1.heap.size + 1 ≤ w2.heap.size := by have := hk2.size; simp only [World.size_alloc] at this; omega
  clear hs2 hk2
  have tTV1 := TV1.out
  have yTV1 : w1.heap.size < w2.heap.size := by omega
  go_wp2_with fail
  have hkp := Kp.al w2 (.cells #[.slice A2 m c2] 24)
  have HV1 := Lib.hid (HV1.out.below hkp.below')
  have TV1 := Lib.hid (keepc hkp TV1.out (fun h => h))
  have HV2 := Lib.hid (HV2.out.below hkp.below')
  have HK := Lib.hid (HK.out.nw hkp)
  clear hkp
  have TV2 : Hid ((w2.alloc (.cells #[.slice A2 m c2] 24)).cell? ⟨w2.heap.size, 0, none⟩ = some (.slice A2 m c2)) := Lib.hid (Own1.new w2 (.slice A2 m c2) 24).1
  refine (eqSong_same A2 A1 m c2 c1 zs _ HV2.out.rd HV1.out.rd HL.out).mono ?_
  rintro e w3 ⟨rfl, hk3⟩
  have HV1 := Lib.hid (HV1.out.below hk3.below')
  have TV1 := Lib.hid (keepc hk3 TV1.out (fun h => h))
  have HV2 := Lib.hid (HV2.out.below hk3.below')
  have TV2 := Lib.hid (keepc hk3 TV2.out (fun h => h))
  have HK := Lib.hid (HK.out.nw hk3)
  have z3 : w2.heap.size + 1 ≤ w3.heap.size := by have := hk3.size; simp only [World.size_alloc] at this; omega
  clear tTV1 yTV1
  clear hk3
  have tTV2 := TV2.out
  have yTV2 : w2.heap.size < w3.heap.size := by omega
  go_wp2_with fail
  refine (markSong_any A2 m c2 1 zs _ _ HV2.out HM.out (by omega) (by omega) (by rw [HM.out]; omega)).mono ?_
  rintro e w4 ⟨rfl, hs4, hk4⟩
  have HV1 := Lib.hid (HV1.out.kp hk4 (fun g a b => by have := O1.out g a; have := O2.out g b; omega))
  have TV1 := Lib.hid (keepc hk4 TV1.out (fun hg => by have := O2.out _ hg; simp only [] at this; omega))
  have TV2 := Lib.hid (keepc hk4 TV2.out (fun hg => by have := O2.out _ hg; simp only [] at this; omega))
  have HK := Lib.hid (HK.out.after hk4 (fun g hg h2 => by have := O2.out g h2; omega))
  have z4 : w3.heap.size ≤ w4.heap.size := hk4.size
  have HV2 := Lib.hid hs4
  clear hs4 hk4
  clear tTV2 yTV2
  have tTV2 := TV2.out
  have yTV2 : w2.heap.size < w4.heap.size := by omega
  go_wp2_with fail
  refine (heldSong_any A2 m c2 1 _ HV2.out.rd (by omega) (by omega) (by omega)).mono ?_
  rintro e w5 ⟨rfl, hk5⟩
  have HV1 := Lib.hid (HV1.out.below hk5.below')
  have TV1 := Lib.hid (keepc hk5 TV1.out (fun h => h))
  have HV2 := Lib.hid (HV2.out.below hk5.below')
  have TV2 := Lib.hid (keepc hk5 TV2.out (fun h => h))
  have HK := Lib.hid (HK.out.nw hk5)
  have z5 : w4.heap.size ≤ w5.heap.size := hk5.size
  clear tTV2 yTV2
  clear hk5
  go_wp2_with fail
  refine (hI.out _ HK.out).mono ?_
  rintro e w6 ⟨v6, rfl, hs6, hk6⟩
  obtain ⟨A6, c6, rfl⟩ := hs6.val HM.out
  have HV6 := Lib.hid hs6
  have O6 : Hid (∀ g, (Value.slice A6 m c6).ownBlock = some g → w5.heap.size ≤ g ∧ g < w6.heap.size) := Lib.hid (fun g hg => by have := hs6.own_ge g hg; omega)
  have HV1 := Lib.hid (HV1.out.below hk6.below')
  have TV1 := Lib.hid (keepc hk6 TV1.out (fun h => h))
  have HV2 := Lib.hid (HV2.out.below hk6.below')
  have TV2 := Lib.hid (keepc hk6 TV2.out (fun h => h))
  have HK := Lib.hid (HK.out.nw hk6)
  have z6 : w5.heap.size ≤ w6.heap.size := hk6.size
  clear hs6 hk6
  have tTV1 := TV1.out
  have yTV1 : w1.heap.size < w6.heap.size := by omega
  go_wp2_with fail
  have hkp := Kp.al w6 (.cells #[.slice A6 m c6] 24)
  have HV1 := Lib.hid (HV1.out.below hkp.below')
  have TV1 := Lib.hid (keepc hkp TV1.out (fun h => h))
  have HV2 := Lib.hid (HV2.out.below hkp.below')
  have TV2 := Lib.hid (keepc hkp TV2.out (fun h => h))
  have HV6 := Lib.hid (HV6.out.below hkp.below')
  have HK := Lib.hid (HK.out.nw hkp)
  clear hkp
  have TV6 : Hid ((w6.alloc (.cells #[.slice A6 m c6] 24)).cell? ⟨w6.heap.size, 0, none⟩ = some (.slice A6 m c6)) := Lib.hid (Own1.new w6 (.slice A6 m c6) 24).1
  refine (eqSong_same A6 A1 m c6 c1 zs _ HV6.out.rd HV1.out.rd HL.out).mono ?_
  rintro e w7 ⟨rfl, hk7⟩
  have HV1 := Lib.hid (HV1.out.below hk7.below')
  have TV1 := Lib.hid (keepc hk7 TV1.out (fun h => h))
  have HV2 := Lib.hid (HV2.out.below hk7.below')
  have TV2 := Lib.hid (keepc hk7 TV2.out (fun h => h))
  have HV6 := Lib.hid (HV6.out.below hk7.below')
  have TV6 := Lib.hid (keepc hk7 TV6.out (fun h => h))
  have HK := Lib.hid (HK.out.nw hk7)
  have z7 : w6.heap.size + 1 ≤ w7.heap.size := by have := hk7.size; simp only [World.size_alloc] at this; omega
  clear tTV1 yTV1
  clear hk7
  have tTV2 := TV2.out
  have yTV2 : w2.heap.size < w7.heap.size := by omega
  go_wp2_with fail
  refine (heldSong_any A2 m c2 1 _ HV2.out.rd (by omega) (by omega) (by omega)).mono ?_
  rintro e w8 ⟨rfl, hk8⟩
  have HV1 := Lib.hid (HV1.out.below hk8.below')
  have TV1 := Lib.hid (keepc hk8 TV1.out (fun h => h))
  have HV2 := Lib.hid (HV2.out.below hk8.below')
  have TV2 := Lib.hid (keepc hk8 TV2.out (fun h => h))
  have HV6 := Lib.hid (HV6.out.below hk8.below')
  have TV6 := Lib.hid (keepc hk8 TV6.out (fun h => h))
  have HK := Lib.hid (HK.out.nw hk8)
  have z8 : w7.heap.size ≤ w8.heap.size := hk8.size
  clear tTV2 yTV2
  clear hk8
  go_wp2
  go_ret
  exact ⟨rfl, HK.out⟩

theorem lawSongOfWords (s : ByteArray) (W : World) (hM : MxL W) (hm : s.size ≤ maxLen) :
    Calls Tryd.prog 3 #[.string s] W fun e w' => e = .returned (.bool true) ∧ Kp Nw W w' := by
  obtain ⟨l, rfl⟩ : ∃ l : List UInt8, s = ⟨l.toArray⟩ := ⟨s.data.toList, rfl⟩
  by_cases h : (1048576 : Int) < (ByteArray.mk l.toArray).size
  · exact lawSongOfWords_bigt _ W hm h
  · have hs : l.length ≤ 1048576 := by
      have e : (ByteArray.mk l.toArray).size = l.length := rfl
      omega
    refine lawSongOfWords_of _ (if swB l = true then cntW l else []) (swB l) W (by omega) ?_ (Lib.hid fun w => sSongOfWords_any l w hs _ _ rfl rfl) (Lib.hid fun w hk => iSongOfWords_any l w (hM.nw hk) hs _ _ rfl rfl)
    by_cases hp : swB l = true
    · rw [if_pos hp]
      unfold swB at hp
      rw [Bool.and_eq_true] at hp
      have := (sgB_len hp.2).2
      omega
    · rw [if_neg hp]; simp
end Go.Proofs.YtpajmgonceepoabDoor
