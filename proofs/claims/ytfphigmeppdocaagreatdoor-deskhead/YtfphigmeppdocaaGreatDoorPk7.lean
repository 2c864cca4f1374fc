/-
  PROVED: whatever two texts are handed in, the law DeskHead returns true (what the desk answers to a text is what it answers first when more text follows), on every schedule, without a race, and its arguments read afterwards as they read before; the five tables of the library that its road can read are tied to the program's text (the card). Conditions: none of our own.
-/
import Derived.Test.YtfphigmeppdocaaGreatDoorCards
import Derived.Test.YtfphigmeppdocaaGreatDoorTie
import Derived.Lay
import Derived.ChangeMaps5
import Derived.ProofKit
import Derived.LaidMore
import Derived.OpenShut
import Derived.Stop.Joined
import Derived.Stop.LaidErr
import Derived.Test.YtfphigmeppdocaaGreatDoorPk6
open Bool renaming true->ν,false->ο
open Go renaming laidMetH->uX,trodAll_cons_mk->afQ
open Go.ChangeMaps renaming open_string->NL,shut_string->NM
open Go.ChangeSpec renaming witness_shaped->VL
open Go.Lib renaming hasPrefix->VM
open Go.MakeChecks renaming laidMetH_plain->Ji
open Go.OpenSpec renaming ofChange->D2
open Go.World renaming laidAll->Jj
open Go.laidMet renaming tail->Jk
open Option.some renaming inj->jP
set_option linter.unusedSimpArgs false
set_option maxHeartbeats 4000000
set_option maxRecDepth 100000
namespace Go.Proofs.YtfphigmeppdocaaGreatDoor.Q
open Lo (ah)
open Go.Proofs.Tryz
open Go.RowKit
open Low (ji eX)
open Lo (eH)
theorem afR(a b:ByteArray):(a++b).data.toList=a.data.toList++b.data.toList:=by rw[ByteArray.data_append,Array.toList_append]
theorem axa l m:(ek l).length<=(ek (l++10::m)).length:=by
 have h1:(ek l).length<=(sp 10 l).length:=by
  unfold ek;split
  .rw[List.length_dropLast];omega
  .omega
 have h2:(sp 10 l).length<=(ek (l++10::m)).length:=by
  have h3:=zg 10 m;have h4:1<=(sp 10 m).length:=by cases h:sp 10 m with|nil=>exact absurd h h3|cons _ _=>simp
  unfold ek;rw[ZR];split
  .rw[List.length_dropLast,List.length_append];omega
  .rw[List.length_append];omega
 omega
theorem axb{l m a b}(hl:¬(65536<(l++10::m).length\/200<(ek (l++10::m)).length))(h:oy (l++10::m) a)(k:oy l b):VM a b=true:=by have h1:=axa l m;unfold oy at h k;rw[ς hl]at h;rw[ς (by rw[List.length_append]at hl;omega)]at k;obtain⟨T1,h⟩:=h;obtain⟨T2,k⟩:=k;obtain⟨c,rfl⟩:=anL (λg o a b=>T3 g o a b) h k;unfold VM;exact List.isPrefixOf_iff_prefix.2 ⟨c,rfl⟩
theorem axc s t w(hs:s.size<=140737488351232)(ht:t.size<=140737488351232)(hM:iN w.heap.size w)(hT:gv w):Calls ah 3 #[.string s,.string t] w λe w'=>(e=.returned (.bool ν)/\Below w.heap.size w w')\/(¬eH eX w.tape/\∃ch,e=.panicked ch/\ji w'):=by
 have hR:=λx W (hb:Below w.heap.size w W)=>afD x W ((hM.below hb).mono hb.size) (hT.low.below hb).tab;have h0:=hR ⟨AD.toArray⟩ w (Below.refl _ _);rw[show (⟨AD.toArray⟩:ByteArray).data.toList=AD by simp]at h0;have h0:Calls ah 5 #[.string ⟨AD.toArray⟩] w λe w'=>(e=.returned (.string ⟨NK.toArray⟩)/\Below w.heap.size w w')\/(¬eH eX w.tape/\∃ch,e=.panicked ch/\ji w'):=h0.mono λe w' h=>h.imp (λ⟨out,e1,e2,e3⟩=>⟨by rw[e1,aw6 e2],e3.2⟩) id;have e1:¬9223372036854775807<s.size+1:=by omega
 have e2:¬9223372036854775807<s.size+1+t.size:=by omega
 obtain⟨A,hA⟩:∃A,A=s++⟨#[10]⟩++t:=⟨_,rfl⟩;have IU:Hid (A.data.toList=s.data.toList++10::t.data.toList):=by show _=_;rw[hA,afR,afR];simp
 have hAs:A.size=s.size+1+t.size:=by rw[hA];simp;rfl
 have axd:Hid (A.data.toList.length=A.size):=by show _=_;rw[Array.length_toList];rfl
 have aBq:=hA.symm;have bI:=aa hR;clear hM hT hR hA;simp only[AD,NK]at h0;go_enter aks,ntmps3;go_wp2_with fail;refine h0.mono ?_;rintro e w1 (⟨rfl,aj⟩|⟨hz,ch,rfl,hd⟩)
 case inr=>exact⟨rfl,.inr ⟨hz,ch,rfl,hd⟩⟩
 have aS:=aa aj;clear h0 aj;by_cases hl:65536<A.size
 .have hl':(65536:Int)<(A.size:Int):=by omega
  go_wp2;go_ret;exact .inl ⟨rfl,aS.out⟩
 have hl' :¬(65536:Int)<(A.size:Int):=by omega
 have vK:=afO A w1 (by omega);have Mb:Hid (∀a b,¬200<(ek A.data.toList).length->oy A.data.toList a->oy s.data.toList b->VM a b=ν):=λa b h2 h3 h4=>by rw[IU.out]at h2 h3;refine axb (by rw[<-IU.out,axd.out];rw[<-IU.out]at h2;omega) h3 h4
 clear hs ht hl;go_wp2_with fail;refine vK.mono ?_;rintro e w2 ⟨aT,cap,ws,ou,rfl, -,aq⟩;have lN:ws.length=(ek A.data.toList).length:=by rw[<-ou,List.length_map]
 have aN:=aa (aS.out.trans (aq.mono aS.out.size));clear vK aq ou;by_cases h2:200<ws.length
 .have jS:(200:Int)<(ws.length:Int):=by omega
  clear lN;go_wp2;go_ret;exact .inl ⟨rfl,aN.out⟩
 have jS :¬(200:Int)<(ws.length:Int):=by omega
 have axe:=aa (λa b=>Mb.out a b (by omega));have Fo:=bI.out A w2 aN.out;clear lN h2 Mb;go_wp2_with fail;refine Fo.mono ?_;rintro e w3 (⟨NN,rfl,Dw, -,aB⟩|⟨hz,ch,rfl,hd⟩)
 case inr=>exact⟨rfl,.inr ⟨λh=>hz (by rw[aN.out.tape];exact h),ch,rfl,hd⟩⟩
 have bw:=aa (aN.out.trans (aB.mono aN.out.size));have axf:=aa Dw;have afS:=bI.out s w3 bw.out;clear Fo aB Dw;go_wp2_with fail;refine afS.mono ?_;rintro e w4 (⟨ob,rfl,vp, -,hb4⟩|⟨hz,ch,rfl,hd⟩)
 case inr=>exact⟨rfl,.inr ⟨λh=>hz (by rw[bw.out.tape];exact h),ch,rfl,hd⟩⟩
 have cr:=aa (bw.out.trans (hb4.mono bw.out.size));have hp:=Tryz.strings_HasPrefix ⟨NN.toArray⟩ ⟨ob.toArray⟩ w4;rw[show (⟨NN.toArray⟩:ByteArray).data.toList=NN by simp,show (⟨ob.toArray⟩:ByteArray).data.toList=ob by simp,axe.out NN ob axf.out vp]at hp;clear afS hb4 vp;go_wp2_with fail;refine hp.mono ?_;rintro e aO ⟨rfl,rfl⟩;clear hp;go_wp2;go_ret;exact .inl ⟨rfl,cr.out⟩
end Go.Proofs.YtfphigmeppdocaaGreatDoor.Q
namespace Go.Proofs.YtfphigmeppdocaaGreatDoor
open Go.ChangeShapes Go.WideShapes Go.ChangeAt Go.RowKit Go.Conc Go.ConcR fV Lo
theorem axg:kn.contains 3=true:=by kernel_rfl
theorem axh os args:uX Tryz.prog Rows.deskHeadRow.laid ((Jj Tryz.prog os Rows.deskHeadRow.laid).forCall (λ_ _=>0) ⟨#[],args,[]⟩).memory:=by rw[Ji _ _ _ (by kernel_rfl)];exact laidMet_laidAll _ (by kernel_rfl) (by kernel_rfl)
theorem axi{W : World}(h : uX Tryz.prog Rows.deskHeadRow.laid W): Lib.TabIs Tryz.prog W "internal/strconv.uint64pow10" .u64 Lib.pow10Tab := by
 rw[Ji _ _ _ (by kernel_rfl)]at h;have h3:=Jk (Jk h);have e:(Rows.laid_internal_strconv_uint64pow10:DataW Unit)=Lib.tabData .u64 Lib.pow10Tab:=by kernel_rfl
 rw[e]at h3;exact Lib.tabIs_of_head (g:=1) (t:=185) (e:=156) (n:=20) (by kernel_rfl) (by kernel_rfl) Tryz.underlying185 Tryz.underlying156 (by kernel_rfl) (by kernel_rfl) h3
theorem axj(os:Os)(started:os.Started)(H:Type)(enc:TypeId×Value→H):ReturnsInLeavingWide {} Tryz.checked os 3 .any (λw args=>(Rows.deskHeadSpec.pre enc Tryz.prog Tryz.f3 [] ο w args∧uX Tryz.prog Rows.deskHeadRow.laid w)∧sizedMet enc Tryz.prog Tryz.f3 (D2 Rows.deskHeadSpec) ο w args)
   (Rows.deskHeadSpec.post enc Tryz.prog Tryz.f3 ο ν ο ο):=by
 refine ZL (C:=Tryz.checked) (X:=λw _=>uX Tryz.prog Rows.deskHeadRow.laid w) (λ_ _ _ hh h=>h.of_heap hh) ZK started Tryz.func3
  (VL (enc:=enc) (C:=Tryz.checked) (os:=os) (X:=λw _=>uX Tryz.prog Rows.deskHeadRow.laid w) ο (Jj Tryz.prog os Rows.deskHeadRow.laid) #[.string ⟨#[]⟩,.string ⟨#[]⟩] 8 (World.laidAll_os _ _ _) (World.shaped_of_ZipB (by kernel_rfl) (by kernel_rfl)) (by kernel_rfl) (by kernel_rfl) (by kernel_rfl) (axh os _)) ?_
 intro W base args ds gs before Jl hW hL CB VN;have hval:∀(j:Nat) t v,Tryz.f3.params[j]?=some t→args[j]?=some v→Value.okWide Tryz.prog W .any base t v:=Jl;have VO:=hW;obtain⟨p,q,EI,hV,rfl,hfz,hnd⟩:=hW;have hA:DataW.TrodAll enc Tryz.prog W 0 (λ_=>ν) ν Tryz.f3.params.toList args.toList ds p:=EI;have hsz:(DataW.weightsEach Tryz.prog (Tryz.f3.params.toList++Rows.deskHeadSpec.plain.varTypes Tryz.prog) (ds++gs)).all (·≤reachBytes)=true:=VN;rw[Tryz.params3]at hA hval hsz;obtain⟨v0,axk,d0,axl,p0,q0,hargs,rfl,rfl,h0,r0⟩:=trodAll_cons hA;obtain⟨v1,aBr,d1,aBs,p1,q1,rfl,rfl,rfl,h1,r1⟩:=trodAll_cons r0;obtain⟨rfl,rfl,rfl⟩:=trodAll_nil r1;obtain rfl:args=#[v0,v1]:=by cases args;simp_all
 obtain⟨rfl,rfl⟩:=trodVars_none hV;obtain⟨t0,rfl,rfl,rfl,VP⟩:=NL Tryz.underlying9 (hval 0 9 v0 rfl rfl) h0;obtain⟨t1,rfl,rfl,rfl,axm⟩:=NL Tryz.underlying9 (hval 1 9 v1 rfl rfl) h1;clear EI Jl;refine Y0 (W:=W) axg (by decide) (λτ d=>(Q.axc t0 t1 (tp (kI W) τ d) (RE (j:=0) hsz rfl rfl) (RE (j:=1) hsz rfl rfl) (ZM CB τ d) (ZN (axi hL) τ d)).mono λe w' h=>h.imp (λh=>⟨h.1,?_⟩) λh=>h) (λW' aQ=>?_)
 .have hb:=h.2;rwa[show (tp (kI W) τ d).heap.size=W.heap.size from K8 W]at hb
 exact⟨_,_,_,[],_,[],VO,trodAll_mk1 (shut_bool Tryz.underlying4 _),(afQ (NM Tryz.underlying9 VP) (afQ (NM Tryz.underlying9 axm) trodAll_mk0)),rfl,aQ.frame _,λh=>by cases h⟩
theorem axn:Rows.DeskHeadSaid:=
 OpenClaim.holds_of_wide_leaving 3 Tryz.f3 rfl rfl rfl rfl rfl rfl rfl ⟨rfl,rfl,rfl,rfl,rfl⟩ rfl rfl rfl rfl rfl (by kernel_rfl) Tryz.func3 (by kernel_rfl)
  (AF (by kernel_rfl)) (by unfold Func.isWrapper;first|(rw[χ (by decide+kernel)];kernel_rfl)|(rw[ς (by decide+kernel)];exact⟨rfl,rfl⟩))
  (λos started H enc _=>axj os started H enc)
theorem deskHead_holds:Rows.DeskHeadCardSaid:=
 zV [.data,.data,.data,.data,.pinned] ν Rows.deskHeadCard.stood.harness ο
  axn (by kernel_rfl) deskHead_row_tie rfl ⟨rfl,rfl⟩ (by kernel_rfl) rfl
  (λf fn hf hfn=>by
   obtain rfl:f=3:=jP ((show Tryz.prog.funcNamed Tryz.f3.name=some 3 by kernel_rfl).symm.trans hf) |>.symm;obtain rfl:fn=Tryz.f3:=(jP (Tryz.func3.symm.trans hfn)).symm;exact⟨by kernel_rfl,λj t ht=>by
    rw[Tryz.params3]at ht;(have hm:t∈[9,9]:=by simpa using Array.mem_of_getElem? ht);(have hall:([9,9].all λu=> !Tryz.prog.wantsStandIn u)=true:=by kernel_rfl);exact(show Tryz.prog.wantsStandIn t=ο by simpa using List.all_eq_true.1 hall t hm)⟩)
  (by kernel_rfl)
end Go.Proofs.YtfphigmeppdocaaGreatDoor
