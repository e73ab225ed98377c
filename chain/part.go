package chain

import (
	"strings"

	"cahier/api"
	"cahier/num"
)

const (
	mark      = "\x03"                // what each page of a chain begins with
	pageBytes = 4                     // bytes of a page's number
	partAt    = len(mark) + pageBytes // where a page's part begins
	partBytes = api.Payload - partAt  // bytes of a part that isn't the last one
)

// pageOf: the page of a part, and of the number of the next part's page, 0 of the last one.
func pageOf(part string, next int) string {
	behind := strings.Repeat("\x00", partBytes-len(part))
	return mark + num.Fixed(uint64(next), pageBytes) + part + behind
}

// partOf: the part on a page, where so many bytes of the value are left, and the next part's page; whether it can be that.
func partOf(page string, left int) (string, int, bool) {
	if len(page) != api.Payload || !strings.HasPrefix(page, mark) {
		return "", 0, false
	}
	// Four bytes are as many as Unfixed takes, so its error can't be.
	next, _ := num.Unfixed(page[len(mark):partAt])
	end := partAt + min(left, partBytes)
	isLast := left <= partBytes
	if isLast != (next == 0) || strings.Trim(page[end:], "\x00") != "" {
		return "", 0, false
	}
	return page[partAt:end], int(next), true
}
