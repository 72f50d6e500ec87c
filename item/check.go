package item

import (
	"slices"

	"typecase/api"
	"typecase/base"
	"typecase/font"
	"typecase/hyphen"
	"typecase/spans"
	"typecase/utf"
)

// maxFeats is the greatest Feats of a style, which api doesn't name.
const maxFeats = 1<<16 - 1

// Check returns the first error of the setting and the paragraph, or OK.
func Check(s api.Setting, p api.Para) api.Errno {
	switch {
	case !utf.Right(p.Text):
		return api.ErrText
	case !each(s.Fonts, isFont):
		return api.ErrFont
	case !isSetting(s) || !isPara(p, len(s.Styles)):
		return api.ErrArg
	case isTooMuch(s, p):
		return api.ErrMany
	}
	return api.OK
}

// isSetting tells whether there is no ErrArg for the setting.
func isSetting(s api.Setting) bool {
	// Where there are styles there are fonts, too: each style has one of them.
	return len(s.Styles) > 0 &&
		each(s.Styles, func(style api.Style) bool { return isStyle(style, len(s.Fonts)) }) &&
		each(s.Patterns, isPattern) &&
		within(s.Every, 0, api.MaxUnit) && within(s.Leading, 1, api.MaxUnit)
}

// isPara tells whether there is no ErrArg for the paragraph in a setting of so many styles.
func isPara(p api.Para, styles int) bool {
	return len(base.Paras(p.Text)) <= 1 &&
		spans.Whole(p.Styles, len(p.Text)) &&
		each(p.Styles, func(part api.Span) bool { return isIndex(part.Val, styles) }) &&
		areTabs(p.Tabs) &&
		within(p.Dir, api.DirAuto, api.DirRight) && within(p.Width, 1, api.MaxWidth) &&
		within(p.Align, api.AlignStart, api.AlignFull) && within(p.Mode, api.ModeFirst, api.ModeBest)
}

// isTooMuch tells whether the setting or the paragraph has more of anything than it may have.
func isTooMuch(s api.Setting, p api.Para) bool {
	return len(s.Fonts) > api.MaxFonts || len(s.Styles) > api.MaxStyles || len(s.Patterns) > api.MaxPatterns ||
		len(p.Tabs) > api.MaxTabs || len(p.Text) > api.MaxRunes
}

// isFont tells whether the font is valid.
func isFont(f api.Font) bool { return font.Check(f) == api.OK }

// isStyle tells whether the style is valid in a setting of so many fonts.
func isStyle(style api.Style, fonts int) bool {
	return isIndex(style.Font, fonts) && within(style.Size, 1, api.MaxSize) &&
		within(style.Space, -api.MaxUnit, api.MaxUnit) && within(style.Feats, 0, maxFeats)
}

// isPattern tells whether the pattern is valid.
func isPattern(pattern string) bool {
	_, _, ok := hyphen.Parse(pattern)
	return ok
}

// areTabs tells whether each tab is valid and stands behind the one before.
func areTabs(tabs []api.Tab) bool {
	least := 0
	for _, tab := range tabs {
		if !within(tab.At, least, api.MaxWidth) || !within(tab.Kind, api.TabStart, api.TabPoint) {
			return false
		}
		least = tab.At + 1
	}
	return true
}

// isIndex tells whether i is an index into a list of n elements.
func isIndex(i, n int) bool { return within(i, 0, n-1) }

// within tells whether n is from least to most.
func within(n, least, most int) bool { return least <= n && n <= most }

// each tells whether all elements are as asked.
func each[T any](list []T, asked func(T) bool) bool {
	return !slices.ContainsFunc(list, func(x T) bool { return !asked(x) })
}
