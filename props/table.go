package props

import "typecase/api"

// The table has count rows, in five arrays of share rows each, so that no function that holds one is long.
const (
	count = 260
	share = 52
)

// row holds what the chapter's table tells of the code points from from to to, both included.
type row struct {
	from, to                                  rune
	bidi, cluster, breaks, script, join, word int
	mirror, pair                              rune
	opens                                     bool
}

// prop returns the properties that the row gives.
func (x row) prop() api.Prop {
	return api.Prop{
		Bidi: x.bidi, Cluster: x.cluster, Break: x.breaks, Script: x.script, Join: x.join, Word: x.word,
		Mirror: x.mirror, Pair: x.pair, Opens: x.opens,
	}
}

// defaultRow returns the row of the code points that have none: it has no range.
func defaultRow() row {
	return row{bidi: api.BidiL, cluster: api.ClAny, breaks: api.BrAL, script: api.ScCommon, join: api.JnNone, word: api.WdOther}
}

// rowAt returns row i of the table, or the default row if there is no row i.
func rowAt(i int) row {
	if i < 0 || i >= count {
		return defaultRow()
	}
	switch at := i % share; i / share {
	case 0:
		return from0000(at)
	case 1:
		return from00AA(at)
	case 2:
		return from0622(at)
	case 3:
		return from0E32(at)
	default:
		return from2264(at)
	}
}

// Each of the functions below is named after the code point that its first row begins with.
// They index their literal where it stands: an array in a variable would be copied at every call.

func from0000(at int) row {
	return [share]row{
		{0x0000, 0x0008, api.BidiBN, api.ClControl, api.BrCM, api.ScCommon, api.JnNone, api.WdOther, 0, 0, false},
		{0x0009, 0x0009, api.BidiS, api.ClControl, api.BrBA, api.ScCommon, api.JnNone, api.WdSpace, 0, 0, false},
		{0x000A, 0x000A, api.BidiB, api.ClLF, api.BrLF, api.ScCommon, api.JnNone, api.WdSpace, 0, 0, false},
		{0x000B, 0x000B, api.BidiS, api.ClControl, api.BrBK, api.ScCommon, api.JnNone, api.WdSpace, 0, 0, false},
		{0x000C, 0x000C, api.BidiWS, api.ClControl, api.BrBK, api.ScCommon, api.JnNone, api.WdSpace, 0, 0, false},
		{0x000D, 0x000D, api.BidiB, api.ClCR, api.BrCR, api.ScCommon, api.JnNone, api.WdSpace, 0, 0, false},
		{0x000E, 0x001B, api.BidiBN, api.ClControl, api.BrCM, api.ScCommon, api.JnNone, api.WdOther, 0, 0, false},
		{0x001C, 0x001E, api.BidiB, api.ClControl, api.BrCM, api.ScCommon, api.JnNone, api.WdOther, 0, 0, false},
		{0x001F, 0x001F, api.BidiS, api.ClControl, api.BrCM, api.ScCommon, api.JnNone, api.WdOther, 0, 0, false},
		{0x0020, 0x0020, api.BidiWS, api.ClAny, api.BrSP, api.ScCommon, api.JnNone, api.WdSpace, 0, 0, false},
		{0x0021, 0x0021, api.BidiON, api.ClAny, api.BrEX, api.ScCommon, api.JnNone, api.WdOther, 0, 0, false},
		{0x0022, 0x0022, api.BidiON, api.ClAny, api.BrQU, api.ScCommon, api.JnNone, api.WdOther, 0, 0, false},
		{0x0023, 0x0023, api.BidiET, api.ClAny, api.BrAL, api.ScCommon, api.JnNone, api.WdOther, 0, 0, false},
		{0x0024, 0x0024, api.BidiET, api.ClAny, api.BrPR, api.ScCommon, api.JnNone, api.WdOther, 0, 0, false},
		{0x0025, 0x0025, api.BidiET, api.ClAny, api.BrPO, api.ScCommon, api.JnNone, api.WdOther, 0, 0, false},
		{0x0026, 0x0026, api.BidiON, api.ClAny, api.BrAL, api.ScCommon, api.JnNone, api.WdOther, 0, 0, false},
		{0x0027, 0x0027, api.BidiON, api.ClAny, api.BrQU, api.ScCommon, api.JnNone, api.WdMid, 0, 0, false},
		{0x0028, 0x0028, api.BidiON, api.ClAny, api.BrOP, api.ScCommon, api.JnNone, api.WdOther, 0x0029, 0x0029, true},
		{0x0029, 0x0029, api.BidiON, api.ClAny, api.BrCP, api.ScCommon, api.JnNone, api.WdOther, 0x0028, 0x0028, false},
		{0x002A, 0x002A, api.BidiON, api.ClAny, api.BrAL, api.ScCommon, api.JnNone, api.WdOther, 0, 0, false},
		{0x002B, 0x002B, api.BidiES, api.ClAny, api.BrPR, api.ScCommon, api.JnNone, api.WdOther, 0, 0, false},
		{0x002C, 0x002C, api.BidiCS, api.ClAny, api.BrIS, api.ScCommon, api.JnNone, api.WdMidNum, 0, 0, false},
		{0x002D, 0x002D, api.BidiES, api.ClAny, api.BrHY, api.ScCommon, api.JnNone, api.WdOther, 0, 0, false},
		{0x002E, 0x002E, api.BidiCS, api.ClAny, api.BrIS, api.ScCommon, api.JnNone, api.WdMidNum, 0, 0, false},
		{0x002F, 0x002F, api.BidiCS, api.ClAny, api.BrSY, api.ScCommon, api.JnNone, api.WdOther, 0, 0, false},
		{0x0030, 0x0039, api.BidiEN, api.ClAny, api.BrNU, api.ScCommon, api.JnNone, api.WdDigit, 0, 0, false},
		{0x003A, 0x003A, api.BidiCS, api.ClAny, api.BrIS, api.ScCommon, api.JnNone, api.WdMid, 0, 0, false},
		{0x003B, 0x003B, api.BidiON, api.ClAny, api.BrIS, api.ScCommon, api.JnNone, api.WdMidNum, 0, 0, false},
		{0x003C, 0x003C, api.BidiON, api.ClAny, api.BrAL, api.ScCommon, api.JnNone, api.WdOther, 0x003E, 0, false},
		{0x003D, 0x003D, api.BidiON, api.ClAny, api.BrAL, api.ScCommon, api.JnNone, api.WdOther, 0, 0, false},
		{0x003E, 0x003E, api.BidiON, api.ClAny, api.BrAL, api.ScCommon, api.JnNone, api.WdOther, 0x003C, 0, false},
		{0x003F, 0x003F, api.BidiON, api.ClAny, api.BrEX, api.ScCommon, api.JnNone, api.WdOther, 0, 0, false},
		{0x0040, 0x0040, api.BidiON, api.ClAny, api.BrAL, api.ScCommon, api.JnNone, api.WdOther, 0, 0, false},
		{0x0041, 0x005A, api.BidiL, api.ClAny, api.BrAL, api.ScLatin, api.JnNone, api.WdLetter, 0, 0, false},
		{0x005B, 0x005B, api.BidiON, api.ClAny, api.BrOP, api.ScCommon, api.JnNone, api.WdOther, 0x005D, 0x005D, true},
		{0x005C, 0x005C, api.BidiON, api.ClAny, api.BrPR, api.ScCommon, api.JnNone, api.WdOther, 0, 0, false},
		{0x005D, 0x005D, api.BidiON, api.ClAny, api.BrCP, api.ScCommon, api.JnNone, api.WdOther, 0x005B, 0x005B, false},
		{0x005E, 0x005E, api.BidiON, api.ClAny, api.BrAL, api.ScCommon, api.JnNone, api.WdOther, 0, 0, false},
		{0x005F, 0x005F, api.BidiON, api.ClAny, api.BrAL, api.ScCommon, api.JnNone, api.WdJoin, 0, 0, false},
		{0x0060, 0x0060, api.BidiON, api.ClAny, api.BrAL, api.ScCommon, api.JnNone, api.WdOther, 0, 0, false},
		{0x0061, 0x007A, api.BidiL, api.ClAny, api.BrAL, api.ScLatin, api.JnNone, api.WdLetter, 0, 0, false},
		{0x007B, 0x007B, api.BidiON, api.ClAny, api.BrOP, api.ScCommon, api.JnNone, api.WdOther, 0x007D, 0x007D, true},
		{0x007C, 0x007C, api.BidiON, api.ClAny, api.BrBA, api.ScCommon, api.JnNone, api.WdOther, 0, 0, false},
		{0x007D, 0x007D, api.BidiON, api.ClAny, api.BrCL, api.ScCommon, api.JnNone, api.WdOther, 0x007B, 0x007B, false},
		{0x007E, 0x007E, api.BidiON, api.ClAny, api.BrAL, api.ScCommon, api.JnNone, api.WdOther, 0, 0, false},
		{0x007F, 0x0084, api.BidiBN, api.ClControl, api.BrCM, api.ScCommon, api.JnNone, api.WdOther, 0, 0, false},
		{0x0085, 0x0085, api.BidiB, api.ClControl, api.BrBK, api.ScCommon, api.JnNone, api.WdSpace, 0, 0, false},
		{0x0086, 0x009F, api.BidiBN, api.ClControl, api.BrCM, api.ScCommon, api.JnNone, api.WdOther, 0, 0, false},
		{0x00A0, 0x00A0, api.BidiCS, api.ClAny, api.BrGL, api.ScCommon, api.JnNone, api.WdOther, 0, 0, false},
		{0x00A1, 0x00A1, api.BidiON, api.ClAny, api.BrOP, api.ScCommon, api.JnNone, api.WdOther, 0, 0, false},
		{0x00A2, 0x00A5, api.BidiET, api.ClAny, api.BrPR, api.ScCommon, api.JnNone, api.WdOther, 0, 0, false},
		{0x00A6, 0x00A9, api.BidiON, api.ClAny, api.BrAL, api.ScCommon, api.JnNone, api.WdOther, 0, 0, false},
	}[at]
}

func from00AA(at int) row {
	return [share]row{
		{0x00AA, 0x00AA, api.BidiL, api.ClAny, api.BrAL, api.ScLatin, api.JnNone, api.WdLetter, 0, 0, false},
		{0x00AB, 0x00AB, api.BidiON, api.ClAny, api.BrQU, api.ScCommon, api.JnNone, api.WdOther, 0x00BB, 0, false},
		{0x00AC, 0x00AC, api.BidiON, api.ClAny, api.BrAL, api.ScCommon, api.JnNone, api.WdOther, 0, 0, false},
		{0x00AD, 0x00AD, api.BidiBN, api.ClControl, api.BrBA, api.ScCommon, api.JnTransparent, api.WdExtend, 0, 0, false},
		{0x00AE, 0x00AF, api.BidiON, api.ClAny, api.BrAL, api.ScCommon, api.JnNone, api.WdOther, 0, 0, false},
		{0x00B0, 0x00B1, api.BidiET, api.ClAny, api.BrPO, api.ScCommon, api.JnNone, api.WdOther, 0, 0, false},
		{0x00B2, 0x00B3, api.BidiEN, api.ClAny, api.BrAL, api.ScCommon, api.JnNone, api.WdOther, 0, 0, false},
		{0x00B4, 0x00B4, api.BidiON, api.ClAny, api.BrBB, api.ScCommon, api.JnNone, api.WdOther, 0, 0, false},
		{0x00B5, 0x00B5, api.BidiL, api.ClAny, api.BrAL, api.ScCommon, api.JnNone, api.WdLetter, 0, 0, false},
		{0x00B6, 0x00B6, api.BidiON, api.ClAny, api.BrAL, api.ScCommon, api.JnNone, api.WdOther, 0, 0, false},
		{0x00B7, 0x00B7, api.BidiON, api.ClAny, api.BrAL, api.ScCommon, api.JnNone, api.WdMid, 0, 0, false},
		{0x00B8, 0x00B8, api.BidiON, api.ClAny, api.BrAL, api.ScCommon, api.JnNone, api.WdOther, 0, 0, false},
		{0x00B9, 0x00B9, api.BidiEN, api.ClAny, api.BrAL, api.ScCommon, api.JnNone, api.WdOther, 0, 0, false},
		{0x00BA, 0x00BA, api.BidiL, api.ClAny, api.BrAL, api.ScLatin, api.JnNone, api.WdLetter, 0, 0, false},
		{0x00BB, 0x00BB, api.BidiON, api.ClAny, api.BrQU, api.ScCommon, api.JnNone, api.WdOther, 0x00AB, 0, false},
		{0x00BC, 0x00BE, api.BidiON, api.ClAny, api.BrAL, api.ScCommon, api.JnNone, api.WdOther, 0, 0, false},
		{0x00BF, 0x00BF, api.BidiON, api.ClAny, api.BrOP, api.ScCommon, api.JnNone, api.WdOther, 0, 0, false},
		{0x00C0, 0x00D6, api.BidiL, api.ClAny, api.BrAL, api.ScLatin, api.JnNone, api.WdLetter, 0, 0, false},
		{0x00D7, 0x00D7, api.BidiON, api.ClAny, api.BrAL, api.ScCommon, api.JnNone, api.WdOther, 0, 0, false},
		{0x00D8, 0x00F6, api.BidiL, api.ClAny, api.BrAL, api.ScLatin, api.JnNone, api.WdLetter, 0, 0, false},
		{0x00F7, 0x00F7, api.BidiON, api.ClAny, api.BrAL, api.ScCommon, api.JnNone, api.WdOther, 0, 0, false},
		{0x00F8, 0x024F, api.BidiL, api.ClAny, api.BrAL, api.ScLatin, api.JnNone, api.WdLetter, 0, 0, false},
		{0x0300, 0x036F, api.BidiNSM, api.ClExtend, api.BrCM, api.ScInherited, api.JnTransparent, api.WdExtend, 0, 0, false},
		{0x0370, 0x0373, api.BidiL, api.ClAny, api.BrAL, api.ScGreek, api.JnNone, api.WdLetter, 0, 0, false},
		{0x0374, 0x0375, api.BidiON, api.ClAny, api.BrAL, api.ScCommon, api.JnNone, api.WdOther, 0, 0, false},
		{0x0376, 0x037D, api.BidiL, api.ClAny, api.BrAL, api.ScGreek, api.JnNone, api.WdLetter, 0, 0, false},
		{0x037E, 0x037E, api.BidiON, api.ClAny, api.BrIS, api.ScCommon, api.JnNone, api.WdMidNum, 0, 0, false},
		{0x037F, 0x03FF, api.BidiL, api.ClAny, api.BrAL, api.ScGreek, api.JnNone, api.WdLetter, 0, 0, false},
		{0x0400, 0x0482, api.BidiL, api.ClAny, api.BrAL, api.ScCyrillic, api.JnNone, api.WdLetter, 0, 0, false},
		{0x0483, 0x0489, api.BidiNSM, api.ClExtend, api.BrCM, api.ScInherited, api.JnTransparent, api.WdExtend, 0, 0, false},
		{0x048A, 0x052F, api.BidiL, api.ClAny, api.BrAL, api.ScCyrillic, api.JnNone, api.WdLetter, 0, 0, false},
		{0x0591, 0x05BD, api.BidiNSM, api.ClExtend, api.BrCM, api.ScInherited, api.JnTransparent, api.WdExtend, 0, 0, false},
		{0x05BE, 0x05BE, api.BidiR, api.ClAny, api.BrBA, api.ScHebrew, api.JnNone, api.WdOther, 0, 0, false},
		{0x05BF, 0x05BF, api.BidiNSM, api.ClExtend, api.BrCM, api.ScInherited, api.JnTransparent, api.WdExtend, 0, 0, false},
		{0x05C0, 0x05C0, api.BidiR, api.ClAny, api.BrAL, api.ScHebrew, api.JnNone, api.WdOther, 0, 0, false},
		{0x05C1, 0x05C2, api.BidiNSM, api.ClExtend, api.BrCM, api.ScInherited, api.JnTransparent, api.WdExtend, 0, 0, false},
		{0x05C3, 0x05C3, api.BidiR, api.ClAny, api.BrAL, api.ScHebrew, api.JnNone, api.WdOther, 0, 0, false},
		{0x05C4, 0x05C5, api.BidiNSM, api.ClExtend, api.BrCM, api.ScInherited, api.JnTransparent, api.WdExtend, 0, 0, false},
		{0x05C6, 0x05C6, api.BidiR, api.ClAny, api.BrEX, api.ScHebrew, api.JnNone, api.WdOther, 0, 0, false},
		{0x05C7, 0x05C7, api.BidiNSM, api.ClExtend, api.BrCM, api.ScInherited, api.JnTransparent, api.WdExtend, 0, 0, false},
		{0x05D0, 0x05EA, api.BidiR, api.ClAny, api.BrHL, api.ScHebrew, api.JnNone, api.WdLetter, 0, 0, false},
		{0x05F0, 0x05F2, api.BidiR, api.ClAny, api.BrHL, api.ScHebrew, api.JnNone, api.WdLetter, 0, 0, false},
		{0x05F3, 0x05F4, api.BidiR, api.ClAny, api.BrAL, api.ScHebrew, api.JnNone, api.WdMid, 0, 0, false},
		{0x0600, 0x0605, api.BidiAN, api.ClPrepend, api.BrNU, api.ScCommon, api.JnNone, api.WdOther, 0, 0, false},
		{0x0608, 0x0608, api.BidiAL, api.ClAny, api.BrAL, api.ScArabic, api.JnNone, api.WdOther, 0, 0, false},
		{0x060C, 0x060C, api.BidiCS, api.ClAny, api.BrIS, api.ScCommon, api.JnNone, api.WdMidNum, 0, 0, false},
		{0x0610, 0x061A, api.BidiNSM, api.ClExtend, api.BrCM, api.ScInherited, api.JnTransparent, api.WdExtend, 0, 0, false},
		{0x061B, 0x061B, api.BidiAL, api.ClAny, api.BrEX, api.ScCommon, api.JnNone, api.WdOther, 0, 0, false},
		{0x061C, 0x061C, api.BidiAL, api.ClControl, api.BrCM, api.ScCommon, api.JnTransparent, api.WdExtend, 0, 0, false},
		{0x061F, 0x061F, api.BidiAL, api.ClAny, api.BrEX, api.ScCommon, api.JnNone, api.WdOther, 0, 0, false},
		{0x0620, 0x0620, api.BidiAL, api.ClAny, api.BrAL, api.ScArabic, api.JnDual, api.WdLetter, 0, 0, false},
		{0x0621, 0x0621, api.BidiAL, api.ClAny, api.BrAL, api.ScArabic, api.JnNone, api.WdLetter, 0, 0, false},
	}[at]
}

func from0622(at int) row {
	return [share]row{
		{0x0622, 0x0625, api.BidiAL, api.ClAny, api.BrAL, api.ScArabic, api.JnRight, api.WdLetter, 0, 0, false},
		{0x0626, 0x0626, api.BidiAL, api.ClAny, api.BrAL, api.ScArabic, api.JnDual, api.WdLetter, 0, 0, false},
		{0x0627, 0x0627, api.BidiAL, api.ClAny, api.BrAL, api.ScArabic, api.JnRight, api.WdLetter, 0, 0, false},
		{0x0628, 0x0628, api.BidiAL, api.ClAny, api.BrAL, api.ScArabic, api.JnDual, api.WdLetter, 0, 0, false},
		{0x0629, 0x0629, api.BidiAL, api.ClAny, api.BrAL, api.ScArabic, api.JnRight, api.WdLetter, 0, 0, false},
		{0x062A, 0x062E, api.BidiAL, api.ClAny, api.BrAL, api.ScArabic, api.JnDual, api.WdLetter, 0, 0, false},
		{0x062F, 0x0632, api.BidiAL, api.ClAny, api.BrAL, api.ScArabic, api.JnRight, api.WdLetter, 0, 0, false},
		{0x0633, 0x063F, api.BidiAL, api.ClAny, api.BrAL, api.ScArabic, api.JnDual, api.WdLetter, 0, 0, false},
		{0x0640, 0x0640, api.BidiAL, api.ClAny, api.BrAL, api.ScCommon, api.JnCause, api.WdLetter, 0, 0, false},
		{0x0641, 0x0647, api.BidiAL, api.ClAny, api.BrAL, api.ScArabic, api.JnDual, api.WdLetter, 0, 0, false},
		{0x0648, 0x0648, api.BidiAL, api.ClAny, api.BrAL, api.ScArabic, api.JnRight, api.WdLetter, 0, 0, false},
		{0x0649, 0x064A, api.BidiAL, api.ClAny, api.BrAL, api.ScArabic, api.JnDual, api.WdLetter, 0, 0, false},
		{0x064B, 0x065F, api.BidiNSM, api.ClExtend, api.BrCM, api.ScInherited, api.JnTransparent, api.WdExtend, 0, 0, false},
		{0x0660, 0x0669, api.BidiAN, api.ClAny, api.BrNU, api.ScArabic, api.JnNone, api.WdDigit, 0, 0, false},
		{0x066A, 0x066A, api.BidiET, api.ClAny, api.BrPO, api.ScArabic, api.JnNone, api.WdOther, 0, 0, false},
		{0x066B, 0x066C, api.BidiAN, api.ClAny, api.BrNU, api.ScArabic, api.JnNone, api.WdMidNum, 0, 0, false},
		{0x066D, 0x066D, api.BidiAL, api.ClAny, api.BrAL, api.ScArabic, api.JnNone, api.WdOther, 0, 0, false},
		{0x066E, 0x066F, api.BidiAL, api.ClAny, api.BrAL, api.ScArabic, api.JnDual, api.WdLetter, 0, 0, false},
		{0x0670, 0x0670, api.BidiNSM, api.ClExtend, api.BrCM, api.ScInherited, api.JnTransparent, api.WdExtend, 0, 0, false},
		{0x0671, 0x0673, api.BidiAL, api.ClAny, api.BrAL, api.ScArabic, api.JnRight, api.WdLetter, 0, 0, false},
		{0x0674, 0x0674, api.BidiAL, api.ClAny, api.BrAL, api.ScArabic, api.JnNone, api.WdLetter, 0, 0, false},
		{0x0675, 0x0677, api.BidiAL, api.ClAny, api.BrAL, api.ScArabic, api.JnRight, api.WdLetter, 0, 0, false},
		{0x0678, 0x0687, api.BidiAL, api.ClAny, api.BrAL, api.ScArabic, api.JnDual, api.WdLetter, 0, 0, false},
		{0x0688, 0x0699, api.BidiAL, api.ClAny, api.BrAL, api.ScArabic, api.JnRight, api.WdLetter, 0, 0, false},
		{0x069A, 0x06BF, api.BidiAL, api.ClAny, api.BrAL, api.ScArabic, api.JnDual, api.WdLetter, 0, 0, false},
		{0x06C0, 0x06C0, api.BidiAL, api.ClAny, api.BrAL, api.ScArabic, api.JnRight, api.WdLetter, 0, 0, false},
		{0x06C1, 0x06C2, api.BidiAL, api.ClAny, api.BrAL, api.ScArabic, api.JnDual, api.WdLetter, 0, 0, false},
		{0x06C3, 0x06CB, api.BidiAL, api.ClAny, api.BrAL, api.ScArabic, api.JnRight, api.WdLetter, 0, 0, false},
		{0x06CC, 0x06CC, api.BidiAL, api.ClAny, api.BrAL, api.ScArabic, api.JnDual, api.WdLetter, 0, 0, false},
		{0x06CD, 0x06CD, api.BidiAL, api.ClAny, api.BrAL, api.ScArabic, api.JnRight, api.WdLetter, 0, 0, false},
		{0x06CE, 0x06CE, api.BidiAL, api.ClAny, api.BrAL, api.ScArabic, api.JnDual, api.WdLetter, 0, 0, false},
		{0x06CF, 0x06CF, api.BidiAL, api.ClAny, api.BrAL, api.ScArabic, api.JnRight, api.WdLetter, 0, 0, false},
		{0x06D0, 0x06D1, api.BidiAL, api.ClAny, api.BrAL, api.ScArabic, api.JnDual, api.WdLetter, 0, 0, false},
		{0x06D2, 0x06D3, api.BidiAL, api.ClAny, api.BrAL, api.ScArabic, api.JnRight, api.WdLetter, 0, 0, false},
		{0x06D4, 0x06D4, api.BidiAL, api.ClAny, api.BrEX, api.ScArabic, api.JnNone, api.WdOther, 0, 0, false},
		{0x06D5, 0x06D5, api.BidiAL, api.ClAny, api.BrAL, api.ScArabic, api.JnRight, api.WdLetter, 0, 0, false},
		{0x06D6, 0x06DC, api.BidiNSM, api.ClExtend, api.BrCM, api.ScInherited, api.JnTransparent, api.WdExtend, 0, 0, false},
		{0x06DD, 0x06DD, api.BidiAN, api.ClPrepend, api.BrNU, api.ScCommon, api.JnNone, api.WdOther, 0, 0, false},
		{0x06DF, 0x06E4, api.BidiNSM, api.ClExtend, api.BrCM, api.ScInherited, api.JnTransparent, api.WdExtend, 0, 0, false},
		{0x06F0, 0x06F9, api.BidiEN, api.ClAny, api.BrNU, api.ScArabic, api.JnNone, api.WdDigit, 0, 0, false},
		{0x0900, 0x0902, api.BidiNSM, api.ClExtend, api.BrCM, api.ScDevanagari, api.JnTransparent, api.WdExtend, 0, 0, false},
		{0x0903, 0x0903, api.BidiL, api.ClSpacing, api.BrCM, api.ScDevanagari, api.JnNone, api.WdExtend, 0, 0, false},
		{0x0904, 0x0939, api.BidiL, api.ClAny, api.BrAL, api.ScDevanagari, api.JnNone, api.WdLetter, 0, 0, false},
		{0x093A, 0x093A, api.BidiNSM, api.ClExtend, api.BrCM, api.ScDevanagari, api.JnTransparent, api.WdExtend, 0, 0, false},
		{0x093C, 0x093C, api.BidiNSM, api.ClExtend, api.BrCM, api.ScDevanagari, api.JnTransparent, api.WdExtend, 0, 0, false},
		{0x093E, 0x0940, api.BidiL, api.ClSpacing, api.BrCM, api.ScDevanagari, api.JnNone, api.WdExtend, 0, 0, false},
		{0x0941, 0x0948, api.BidiNSM, api.ClExtend, api.BrCM, api.ScDevanagari, api.JnTransparent, api.WdExtend, 0, 0, false},
		{0x0949, 0x094C, api.BidiL, api.ClSpacing, api.BrCM, api.ScDevanagari, api.JnNone, api.WdExtend, 0, 0, false},
		{0x094D, 0x094D, api.BidiNSM, api.ClExtend, api.BrCM, api.ScDevanagari, api.JnTransparent, api.WdExtend, 0, 0, false},
		{0x0966, 0x096F, api.BidiL, api.ClAny, api.BrNU, api.ScDevanagari, api.JnNone, api.WdDigit, 0, 0, false},
		{0x0E01, 0x0E30, api.BidiL, api.ClAny, api.BrAL, api.ScThai, api.JnNone, api.WdLetter, 0, 0, false},
		{0x0E31, 0x0E31, api.BidiNSM, api.ClExtend, api.BrCM, api.ScThai, api.JnTransparent, api.WdExtend, 0, 0, false},
	}[at]
}

func from0E32(at int) row {
	return [share]row{
		{0x0E32, 0x0E32, api.BidiL, api.ClAny, api.BrAL, api.ScThai, api.JnNone, api.WdLetter, 0, 0, false},
		{0x0E33, 0x0E33, api.BidiL, api.ClSpacing, api.BrCM, api.ScThai, api.JnNone, api.WdExtend, 0, 0, false},
		{0x0E34, 0x0E3A, api.BidiNSM, api.ClExtend, api.BrCM, api.ScThai, api.JnTransparent, api.WdExtend, 0, 0, false},
		{0x0E40, 0x0E46, api.BidiL, api.ClAny, api.BrAL, api.ScThai, api.JnNone, api.WdLetter, 0, 0, false},
		{0x0E47, 0x0E4E, api.BidiNSM, api.ClExtend, api.BrCM, api.ScThai, api.JnTransparent, api.WdExtend, 0, 0, false},
		{0x0E50, 0x0E59, api.BidiL, api.ClAny, api.BrNU, api.ScThai, api.JnNone, api.WdDigit, 0, 0, false},
		{0x1100, 0x115F, api.BidiL, api.ClL, api.BrJL, api.ScHangul, api.JnNone, api.WdLetter, 0, 0, false},
		{0x1160, 0x11A7, api.BidiL, api.ClV, api.BrJV, api.ScHangul, api.JnNone, api.WdLetter, 0, 0, false},
		{0x11A8, 0x11FF, api.BidiL, api.ClT, api.BrJT, api.ScHangul, api.JnNone, api.WdLetter, 0, 0, false},
		{0x2000, 0x2006, api.BidiWS, api.ClAny, api.BrBA, api.ScCommon, api.JnNone, api.WdSpace, 0, 0, false},
		{0x2007, 0x2007, api.BidiWS, api.ClAny, api.BrGL, api.ScCommon, api.JnNone, api.WdSpace, 0, 0, false},
		{0x2008, 0x200A, api.BidiWS, api.ClAny, api.BrBA, api.ScCommon, api.JnNone, api.WdSpace, 0, 0, false},
		{0x200B, 0x200B, api.BidiBN, api.ClControl, api.BrZW, api.ScCommon, api.JnNone, api.WdOther, 0, 0, false},
		{0x200C, 0x200C, api.BidiBN, api.ClExtend, api.BrCM, api.ScInherited, api.JnNone, api.WdExtend, 0, 0, false},
		{0x200D, 0x200D, api.BidiBN, api.ClZWJ, api.BrZWJ, api.ScInherited, api.JnCause, api.WdExtend, 0, 0, false},
		{0x200E, 0x200E, api.BidiL, api.ClControl, api.BrCM, api.ScCommon, api.JnTransparent, api.WdExtend, 0, 0, false},
		{0x200F, 0x200F, api.BidiR, api.ClControl, api.BrCM, api.ScCommon, api.JnTransparent, api.WdExtend, 0, 0, false},
		{0x2010, 0x2010, api.BidiON, api.ClAny, api.BrBA, api.ScCommon, api.JnNone, api.WdOther, 0, 0, false},
		{0x2011, 0x2011, api.BidiON, api.ClAny, api.BrGL, api.ScCommon, api.JnNone, api.WdOther, 0, 0, false},
		{0x2012, 0x2014, api.BidiON, api.ClAny, api.BrBA, api.ScCommon, api.JnNone, api.WdOther, 0, 0, false},
		{0x2018, 0x2019, api.BidiON, api.ClAny, api.BrQU, api.ScCommon, api.JnNone, api.WdMid, 0, 0, false},
		{0x201C, 0x201D, api.BidiON, api.ClAny, api.BrQU, api.ScCommon, api.JnNone, api.WdOther, 0, 0, false},
		{0x2024, 0x2026, api.BidiON, api.ClAny, api.BrIN, api.ScCommon, api.JnNone, api.WdOther, 0, 0, false},
		{0x2028, 0x2028, api.BidiWS, api.ClControl, api.BrBK, api.ScCommon, api.JnNone, api.WdSpace, 0, 0, false},
		{0x2029, 0x2029, api.BidiB, api.ClControl, api.BrBK, api.ScCommon, api.JnNone, api.WdSpace, 0, 0, false},
		{0x202A, 0x202A, api.BidiLRE, api.ClControl, api.BrCM, api.ScCommon, api.JnTransparent, api.WdExtend, 0, 0, false},
		{0x202B, 0x202B, api.BidiRLE, api.ClControl, api.BrCM, api.ScCommon, api.JnTransparent, api.WdExtend, 0, 0, false},
		{0x202C, 0x202C, api.BidiPDF, api.ClControl, api.BrCM, api.ScCommon, api.JnTransparent, api.WdExtend, 0, 0, false},
		{0x202D, 0x202D, api.BidiLRO, api.ClControl, api.BrCM, api.ScCommon, api.JnTransparent, api.WdExtend, 0, 0, false},
		{0x202E, 0x202E, api.BidiRLO, api.ClControl, api.BrCM, api.ScCommon, api.JnTransparent, api.WdExtend, 0, 0, false},
		{0x202F, 0x202F, api.BidiCS, api.ClAny, api.BrGL, api.ScCommon, api.JnNone, api.WdJoin, 0, 0, false},
		{0x2030, 0x2031, api.BidiET, api.ClAny, api.BrPO, api.ScCommon, api.JnNone, api.WdOther, 0, 0, false},
		{0x2039, 0x2039, api.BidiON, api.ClAny, api.BrQU, api.ScCommon, api.JnNone, api.WdOther, 0x203A, 0, false},
		{0x203A, 0x203A, api.BidiON, api.ClAny, api.BrQU, api.ScCommon, api.JnNone, api.WdOther, 0x2039, 0, false},
		{0x203F, 0x2040, api.BidiON, api.ClAny, api.BrAL, api.ScCommon, api.JnNone, api.WdJoin, 0, 0, false},
		{0x2044, 0x2044, api.BidiCS, api.ClAny, api.BrIS, api.ScCommon, api.JnNone, api.WdMidNum, 0, 0, false},
		{0x2045, 0x2045, api.BidiON, api.ClAny, api.BrOP, api.ScCommon, api.JnNone, api.WdOther, 0x2046, 0x2046, true},
		{0x2046, 0x2046, api.BidiON, api.ClAny, api.BrCL, api.ScCommon, api.JnNone, api.WdOther, 0x2045, 0x2045, false},
		{0x2060, 0x2060, api.BidiBN, api.ClControl, api.BrWJ, api.ScCommon, api.JnTransparent, api.WdExtend, 0, 0, false},
		{0x2066, 0x2066, api.BidiLRI, api.ClControl, api.BrCM, api.ScCommon, api.JnNone, api.WdExtend, 0, 0, false},
		{0x2067, 0x2067, api.BidiRLI, api.ClControl, api.BrCM, api.ScCommon, api.JnNone, api.WdExtend, 0, 0, false},
		{0x2068, 0x2068, api.BidiFSI, api.ClControl, api.BrCM, api.ScCommon, api.JnNone, api.WdExtend, 0, 0, false},
		{0x2069, 0x2069, api.BidiPDI, api.ClControl, api.BrCM, api.ScCommon, api.JnNone, api.WdExtend, 0, 0, false},
		{0x20A0, 0x20BF, api.BidiET, api.ClAny, api.BrPR, api.ScCommon, api.JnNone, api.WdOther, 0, 0, false},
		{0x20D0, 0x20F0, api.BidiNSM, api.ClExtend, api.BrCM, api.ScInherited, api.JnTransparent, api.WdExtend, 0, 0, false},
		{0x2190, 0x2207, api.BidiON, api.ClAny, api.BrAL, api.ScCommon, api.JnNone, api.WdOther, 0, 0, false},
		{0x2208, 0x2208, api.BidiON, api.ClAny, api.BrAL, api.ScCommon, api.JnNone, api.WdOther, 0x220B, 0, false},
		{0x2209, 0x220A, api.BidiON, api.ClAny, api.BrAL, api.ScCommon, api.JnNone, api.WdOther, 0, 0, false},
		{0x220B, 0x220B, api.BidiON, api.ClAny, api.BrAL, api.ScCommon, api.JnNone, api.WdOther, 0x2208, 0, false},
		{0x220C, 0x2211, api.BidiON, api.ClAny, api.BrAL, api.ScCommon, api.JnNone, api.WdOther, 0, 0, false},
		{0x2212, 0x2213, api.BidiES, api.ClAny, api.BrPR, api.ScCommon, api.JnNone, api.WdOther, 0, 0, false},
		{0x2214, 0x2263, api.BidiON, api.ClAny, api.BrAL, api.ScCommon, api.JnNone, api.WdOther, 0, 0, false},
	}[at]
}

func from2264(at int) row {
	return [share]row{
		{0x2264, 0x2264, api.BidiON, api.ClAny, api.BrAL, api.ScCommon, api.JnNone, api.WdOther, 0x2265, 0, false},
		{0x2265, 0x2265, api.BidiON, api.ClAny, api.BrAL, api.ScCommon, api.JnNone, api.WdOther, 0x2264, 0, false},
		{0x2266, 0x22FF, api.BidiON, api.ClAny, api.BrAL, api.ScCommon, api.JnNone, api.WdOther, 0, 0, false},
		{0x2329, 0x2329, api.BidiON, api.ClAny, api.BrOP, api.ScCommon, api.JnNone, api.WdOther, 0x232A, 0x232A, true},
		{0x232A, 0x232A, api.BidiON, api.ClAny, api.BrCL, api.ScCommon, api.JnNone, api.WdOther, 0x2329, 0x2329, false},
		{0x2600, 0x27BF, api.BidiON, api.ClPicture, api.BrID, api.ScCommon, api.JnNone, api.WdOther, 0, 0, false},
		{0x3000, 0x3000, api.BidiWS, api.ClAny, api.BrBA, api.ScCommon, api.JnNone, api.WdSpace, 0, 0, false},
		{0x3001, 0x3002, api.BidiON, api.ClAny, api.BrCL, api.ScCommon, api.JnNone, api.WdOther, 0, 0, false},
		{0x3005, 0x3005, api.BidiL, api.ClAny, api.BrNS, api.ScHan, api.JnNone, api.WdOther, 0, 0, false},
		{0x3008, 0x3008, api.BidiON, api.ClAny, api.BrOP, api.ScCommon, api.JnNone, api.WdOther, 0x3009, 0x3009, true},
		{0x3009, 0x3009, api.BidiON, api.ClAny, api.BrCL, api.ScCommon, api.JnNone, api.WdOther, 0x3008, 0x3008, false},
		{0x300A, 0x300A, api.BidiON, api.ClAny, api.BrOP, api.ScCommon, api.JnNone, api.WdOther, 0x300B, 0x300B, true},
		{0x300B, 0x300B, api.BidiON, api.ClAny, api.BrCL, api.ScCommon, api.JnNone, api.WdOther, 0x300A, 0x300A, false},
		{0x300C, 0x300C, api.BidiON, api.ClAny, api.BrOP, api.ScCommon, api.JnNone, api.WdOther, 0x300D, 0x300D, true},
		{0x300D, 0x300D, api.BidiON, api.ClAny, api.BrCL, api.ScCommon, api.JnNone, api.WdOther, 0x300C, 0x300C, false},
		{0x300E, 0x300E, api.BidiON, api.ClAny, api.BrOP, api.ScCommon, api.JnNone, api.WdOther, 0x300F, 0x300F, true},
		{0x300F, 0x300F, api.BidiON, api.ClAny, api.BrCL, api.ScCommon, api.JnNone, api.WdOther, 0x300E, 0x300E, false},
		{0x3010, 0x3010, api.BidiON, api.ClAny, api.BrOP, api.ScCommon, api.JnNone, api.WdOther, 0x3011, 0x3011, true},
		{0x3011, 0x3011, api.BidiON, api.ClAny, api.BrCL, api.ScCommon, api.JnNone, api.WdOther, 0x3010, 0x3010, false},
		{0x3041, 0x3096, api.BidiL, api.ClAny, api.BrID, api.ScKana, api.JnNone, api.WdOther, 0, 0, false},
		{0x3099, 0x309A, api.BidiNSM, api.ClExtend, api.BrCM, api.ScInherited, api.JnTransparent, api.WdExtend, 0, 0, false},
		{0x309D, 0x309E, api.BidiL, api.ClAny, api.BrNS, api.ScKana, api.JnNone, api.WdOther, 0, 0, false},
		{0x30A1, 0x30FA, api.BidiL, api.ClAny, api.BrID, api.ScKana, api.JnNone, api.WdLetter, 0, 0, false},
		{0x30FB, 0x30FB, api.BidiON, api.ClAny, api.BrNS, api.ScCommon, api.JnNone, api.WdOther, 0, 0, false},
		{0x30FC, 0x30FE, api.BidiL, api.ClAny, api.BrNS, api.ScKana, api.JnNone, api.WdLetter, 0, 0, false},
		{0x3400, 0x4DBF, api.BidiL, api.ClAny, api.BrID, api.ScHan, api.JnNone, api.WdOther, 0, 0, false},
		{0x4E00, 0x9FFF, api.BidiL, api.ClAny, api.BrID, api.ScHan, api.JnNone, api.WdOther, 0, 0, false},
		{0xAC00, 0xD7A3, api.BidiL, api.ClLVT, api.BrH3, api.ScHangul, api.JnNone, api.WdLetter, 0, 0, false},
		{0xF900, 0xFAFF, api.BidiL, api.ClAny, api.BrID, api.ScHan, api.JnNone, api.WdOther, 0, 0, false},
		{0xFB1D, 0xFB1D, api.BidiR, api.ClAny, api.BrHL, api.ScHebrew, api.JnNone, api.WdLetter, 0, 0, false},
		{0xFB1E, 0xFB1E, api.BidiNSM, api.ClExtend, api.BrCM, api.ScInherited, api.JnTransparent, api.WdExtend, 0, 0, false},
		{0xFB1F, 0xFB4F, api.BidiR, api.ClAny, api.BrHL, api.ScHebrew, api.JnNone, api.WdLetter, 0, 0, false},
		{0xFE00, 0xFE0F, api.BidiNSM, api.ClExtend, api.BrCM, api.ScInherited, api.JnTransparent, api.WdExtend, 0, 0, false},
		{0xFE20, 0xFE2F, api.BidiNSM, api.ClExtend, api.BrCM, api.ScInherited, api.JnTransparent, api.WdExtend, 0, 0, false},
		{0xFEFF, 0xFEFF, api.BidiBN, api.ClControl, api.BrWJ, api.ScCommon, api.JnTransparent, api.WdExtend, 0, 0, false},
		{0xFF01, 0xFF01, api.BidiON, api.ClAny, api.BrEX, api.ScCommon, api.JnNone, api.WdOther, 0, 0, false},
		{0xFF08, 0xFF08, api.BidiON, api.ClAny, api.BrOP, api.ScCommon, api.JnNone, api.WdOther, 0xFF09, 0xFF09, true},
		{0xFF09, 0xFF09, api.BidiON, api.ClAny, api.BrCL, api.ScCommon, api.JnNone, api.WdOther, 0xFF08, 0xFF08, false},
		{0xFF0C, 0xFF0C, api.BidiCS, api.ClAny, api.BrCL, api.ScCommon, api.JnNone, api.WdMidNum, 0, 0, false},
		{0xFF10, 0xFF19, api.BidiEN, api.ClAny, api.BrID, api.ScCommon, api.JnNone, api.WdDigit, 0, 0, false},
		{0xFFFC, 0xFFFD, api.BidiON, api.ClAny, api.BrAL, api.ScCommon, api.JnNone, api.WdOther, 0, 0, false},
		{0x1F1E6, 0x1F1FF, api.BidiL, api.ClRegional, api.BrRI, api.ScCommon, api.JnNone, api.WdOther, 0, 0, false},
		{0x1F300, 0x1F3FA, api.BidiON, api.ClPicture, api.BrID, api.ScCommon, api.JnNone, api.WdOther, 0, 0, false},
		{0x1F3FB, 0x1F3FF, api.BidiON, api.ClExtend, api.BrEM, api.ScCommon, api.JnNone, api.WdExtend, 0, 0, false},
		{0x1F400, 0x1F465, api.BidiON, api.ClPicture, api.BrID, api.ScCommon, api.JnNone, api.WdOther, 0, 0, false},
		{0x1F466, 0x1F469, api.BidiON, api.ClPicture, api.BrEB, api.ScCommon, api.JnNone, api.WdOther, 0, 0, false},
		{0x1F46A, 0x1F64F, api.BidiON, api.ClPicture, api.BrID, api.ScCommon, api.JnNone, api.WdOther, 0, 0, false},
		{0x1F680, 0x1F6FF, api.BidiON, api.ClPicture, api.BrID, api.ScCommon, api.JnNone, api.WdOther, 0, 0, false},
		{0x1F900, 0x1F9FF, api.BidiON, api.ClPicture, api.BrID, api.ScCommon, api.JnNone, api.WdOther, 0, 0, false},
		{0x20000, 0x2FFFD, api.BidiL, api.ClAny, api.BrID, api.ScHan, api.JnNone, api.WdOther, 0, 0, false},
		{0xE0020, 0xE007F, api.BidiBN, api.ClExtend, api.BrCM, api.ScCommon, api.JnTransparent, api.WdExtend, 0, 0, false},
		{0xE0100, 0xE01EF, api.BidiNSM, api.ClExtend, api.BrCM, api.ScInherited, api.JnTransparent, api.WdExtend, 0, 0, false},
	}[at]
}
