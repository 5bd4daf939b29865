package channel

import (
	"slices"

	"quinaria/api"
)

func isLine(l api.ChannelLine) bool {
	return isFrom(1, api.ChannelSpeeds, len(l.Speeds)) && all(l.Speeds, isSpeed) &&
		isFrom(1, api.ChannelStretches, len(l.Stretches)) &&
		all(l.Stretches, func(x api.ChannelStretch) bool { return isBuilt(l, x) })
}

func isSpeed(speed int) bool { return isFrom(1, api.ChannelSpeed, speed) }

// isBuilt reports whether a stretch of a line is as defined.
func isBuilt(l api.ChannelLine, x api.ChannelStretch) bool {
	return isFrom(1, api.ChannelSize, x.Breadth) && isFrom(1, api.ChannelSize, x.Depth) &&
		isFrom(0, len(l.Speeds)-1, x.Fall) && isSpan(api.ChannelLime, x.Lime)
}

// isStretch reports whether a line has a stretch with a number.
func isStretch(l api.ChannelLine, stretch int) bool {
	return isFrom(0, len(l.Stretches)-1, stretch)
}

func isAge(age int) bool { return isFrom(0, api.ChannelAge, age) }

func areAges(l api.ChannelLine, ages []int) bool {
	return len(ages) == len(l.Stretches) && all(ages, isAge)
}

func isNeed(need int) bool { return isFrom(1, api.ChannelCups, need) }

func areNotes(notes []api.ChannelNote) bool {
	return len(notes) <= api.ChannelNotes && all(notes, func(x api.ChannelNote) bool {
		return isAge(x.Age) && isSpan(api.ChannelCups, x.Cups)
	})
}

func isSiphon(s api.ChannelSiphon) bool {
	return isHeight(s.Inlet) && isFrom(2, api.ChannelPoints, len(s.Points)) && all(s.Points, isHeight) &&
		len(s.Lengths) == len(s.Points)-1 && all(s.Lengths, isLength)
}

func isHeight(x api.Span) bool { return isSpan(api.ChannelHeight, x) }

func isLength(length int) bool { return isFrom(1, api.ChannelLength, length) }

func areClasses(classes []api.ChannelClass) bool {
	return isFrom(1, api.ChannelClasses, len(classes)) && all(classes, func(x api.ChannelClass) bool {
		return isFrom(1, api.ChannelBears, x.Bears) && isFrom(0, api.ChannelPrice, x.Price) && isFrom(0, api.ChannelStock, x.Stock)
	})
}

// isChoice reports whether a list has the number of a class for each segment.
func isChoice(s api.ChannelSiphon, classes []api.ChannelClass, choice []int) bool {
	return len(choice) == len(s.Lengths) && all(choice, func(n int) bool { return isFrom(0, len(classes)-1, n) })
}

// isSpan reports whether a span is one from 0 to a limit.
func isSpan(limit int, x api.Span) bool {
	return isFrom(0, limit, x.Low) && isFrom(x.Low, limit, x.High)
}

func isFrom(low, high, n int) bool { return low <= n && n <= high }

func all[T any](list []T, right func(T) bool) bool {
	return !slices.ContainsFunc(list, func(x T) bool { return !right(x) })
}
